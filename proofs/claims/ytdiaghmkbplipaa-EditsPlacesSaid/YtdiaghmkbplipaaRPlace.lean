/- The contract of the reference's Place. -/
import Derived.Test.YtdiaghmkbplipaaPlace
namespace Go.Proofs.Ytdiaghmkbplipaa
open Go.RowKit

theorem limited_c (n most : Int) (w : World) (hm : 0 ≤ most) :
    Calls Try.prog 25 #[.int .i64 n, .int .i64 most] w fun e w' => e = .returned (.int .i64 (min (max n 0) most)) ∧ w = w' := by
  by_cases h1 : n < 0
  · go_enter Try.func25, Try.ntmps25
    go_wp2
    go_ret
    exact ⟨by rw [show min (max n 0) most = 0 from by omega]; rfl, rfl⟩
  · by_cases h2 : most < n
    · go_enter Try.func25, Try.ntmps25
      go_wp2
      go_ret
      exact ⟨by rw [show min (max n 0) most = most from by omega]; rfl, rfl⟩
    · go_enter Try.func25, Try.ntmps25
      go_wp2
      go_ret
      exact ⟨by rw [show min (max n 0) most = n from by omega]; rfl, rfl⟩


theorem spans_snoc : ∀ (l : List UInt8) (x : UInt8) (st p d : Nat), (spans (l ++ [x]) st p).length = (spans l st p).length + (if x = 10 then 1 else 0) ∧ lastOf (spans (l ++ [x]) st p) d = if x = 10 then p + l.length + 1 else lastOf (spans l st p) d
  | [], x, st, p, d => by
    by_cases h : x = 10 <;> simp [spans, h, lastOf]
  | c :: r, x, st, p, d => by
    rw [List.cons_append, spans_cons, spans_cons]
    by_cases h : c = 10
    · rw [if_pos h, if_pos h]
      obtain ⟨h1, h2⟩ := spans_snoc r x (p + 1) (p + 1) st
      refine ⟨by simp only [List.length_cons, h1]; omega, ?_⟩
      simp only [lastOf, h2, List.length_cons]
      split <;> omega
    · rw [if_neg h, if_neg h]
      obtain ⟨h1, h2⟩ := spans_snoc r x st (p + 1) d
      refine ⟨h1, ?_⟩
      rw [h2, List.length_cons]
      split <;> omega

/-- The line and the place where it begins, of an offset. -/
def lineOf (s : ByteArray) (k : Nat) : Nat := (spans (s.data.toList.take k) 0 0).length
def beginOf (s : ByteArray) (k : Nat) : Nat := lastOf (spans (s.data.toList.take k) 0 0) 0
theorem lineOf_succ {s : ByteArray} {k : Nat} (h : k < s.size) : lineOf s (k + 1) = lineOf s k + (if s[k] = 10 then 1 else 0) ∧ beginOf s (k + 1) = if s[k] = 10 then k + 1 else beginOf s k := by
  have e : s.data.toList.take (k + 1) = s.data.toList.take k ++ [s[k]] := by
    rw [List.take_succ_eq_append_getElem (by simpa using h)]; rfl
  obtain ⟨h1, h2⟩ := spans_snoc (s.data.toList.take k) s[k] 0 0 0
  unfold lineOf beginOf
  rw [e]
  refine ⟨h1, ?_⟩
  rw [h2, List.length_take]
  split
  · have : s.data.toList.length = s.size := by simp
    omega
  · rfl

set_option maxHeartbeats 1000000 in
theorem rplace_c (s : ByteArray) (at_ : Int) (w : World) (hs : s.size ≤ 17000) (ha : -9223372036854775808 ≤ at_) (hb : at_ ≤ 9223372036854775807) :
    Calls Try.prog 10 #[.string s, .int .i64 at_] w fun e w' => e = .returned (.tuple #[.int .i64 (placeL s (clampAt s at_)), .int .i64 (placeC s (clampAt s at_))]) ∧ Below w.heap.size w w' := by
  have hcl : clampAt s at_ ≤ s.size := by unfold clampAt; omega
  have hci : ((clampAt s at_ : Nat) : Int) = min (max at_ 0) (s.size : Int) := by unfold clampAt; omega
  have hL : placeL s (clampAt s at_) = lineOf s (clampAt s at_) := rfl
  have hC : placeC s (clampAt s at_) = (clampAt s at_ : Int) - (beginOf s (clampAt s at_) : Nat) + 1 := rfl
  rw [hL, hC]
  clear hL hC
  generalize clampAt s at_ = c at *
  have Hci := Lib.hid hci
  clear hci
  go_enter Try.func10, Try.ntmps10
  go_wp2_with fail
  refine (limited_c at_ s.size w (by omega)).mono ?_
  rintro e w' ⟨rfl, rfl⟩
  rw [← Hci.out]
  go_wp2_with fail
  go_loop [6, 7, 8] (fun li be i => ∃ k : Nat, k ≤ c ∧ i = .int .i64 k ∧ li = .int .i64 (lineOf s k) ∧ be = .int .i64 (beginOf s k) ∧ lineOf s k ≤ k + 1 ∧ beginOf s k ≤ k) (fun _ _ i => c - (intOf i).toNat)
  case atStart => exact ⟨0, by omega, rfl, rfl, rfl, by simp [lineOf, spans], by simp [beginOf, spans, lastOf]⟩
  case round =>
    obtain ⟨k, hk, rfl, rfl, rfl, hl1, hl2⟩ := hrel
    by_cases hlt : k < c
    · have hks : k < s.size := by omega
      obtain ⟨e1, e2⟩ := lineOf_succ hks
      have i1 : (k : Int) < (s.size : Int) := by omega
      by_cases h10 : s[k] = 10
      · have t1 : (((s[k]).toNat : Int) == 10) = true := by rw [h10]; rfl
        rw [if_pos h10] at e1 e2
        have E1 := Lib.hid e1; have E2 := Lib.hid e2
        clear e1 e2 h10
        go_wp2_with fail
        go_round
        case rel => exact ⟨k + 1, by omega, by go_num, by rw [E1.out]; go_num, by rw [E2.out]; go_num, by rw [E1.out]; omega, by rw [E2.out]; omega⟩
        case measure => simp [intOf]; omega
      · have t1 : (((s[k]).toNat : Int) == 10) = false := by
          rw [beq_eq_false_iff_ne]
          intro h
          exact h10 (UInt8.toNat_inj.1 (by simp; omega))
        rw [if_neg h10] at e1 e2
        have E1 := Lib.hid e1; have E2 := Lib.hid e2
        clear e1 e2 h10
        go_wp2_with fail
        go_round
        case rel => exact ⟨k + 1, by omega, by go_num, by rw [E1.out]; go_num, by rw [E2.out], by rw [E1.out]; omega, by rw [E2.out]; omega⟩
        case measure => simp [intOf]; omega
    · have hkc : k = c := by omega
      subst hkc
      go_wp2_with fail
      go_ret2
      exact ⟨rfl, Below.refl _ _⟩
end Go.Proofs.Ytdiaghmkbplipaa
