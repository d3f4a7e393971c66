/- The contract of edits.eachLine: it hands each line's bounds to the function that it is given, till that answers false. -/
import Derived.Test.YtdiaghmkbplipaaShelf
import Derived.Test.YtdiaghmkbplipaaMath
import Derived.WalkKit
import Derived.BigCall
import Derived.Lib.Hide
import Derived.WalkSpells
import Derived.Lib.IndexBytes
namespace Go.Proofs.Ytdiaghmkbplipaa
open Go.RowKit

/-- The bounds of the lines of a text, from the place p on; the first line begins at st. -/
def spans : List UInt8 → Nat → Nat → List (Nat × Nat)
  | [], st, p => [(st, p)]
  | c :: r, st, p => if c = 10 then (st, p) :: spans r (p + 1) (p + 1) else spans r st (p + 1)

theorem spans_cons (c : UInt8) (r : List UInt8) (st p : Nat) : spans (c :: r) st p = if c = 10 then (st, p) :: spans r (p + 1) (p + 1) else spans r st (p + 1) := rfl

theorem spans_none : ∀ (l : List UInt8) (st p : Nat), Lib.indexByte l 10 = -1 → spans l st p = [(st, p + l.length)]
  | [], _, _, _ => rfl
  | c :: r, st, p, h => by
    unfold Lib.indexByte at h
    by_cases hc : c = 10
    · simp [hc] at h
    · have hr : Lib.indexByte r 10 = -1 := by
        have := Lib.indexByte_ge r 10
        simp only [beq_iff_eq, hc, if_false] at h
        split at h <;> omega
      rw [spans_cons, if_neg hc, spans_none r st (p + 1) hr, List.length_cons]
      congr 2
      omega

theorem spans_some : ∀ (l : List UInt8) (st p o : Nat), Lib.indexByte l 10 = o → o < l.length ∧ spans l st p = (st, p + o) :: spans (l.drop (o + 1)) (p + o + 1) (p + o + 1)
  | [], _, _, o, h => by unfold Lib.indexByte at h; omega
  | c :: r, st, p, o, h => by
    unfold Lib.indexByte at h
    by_cases hc : c = 10
    · simp only [hc, beq_self_eq_true, if_true] at h
      obtain rfl : o = 0 := by omega
      exact ⟨by simp, by rw [spans_cons, if_pos hc]; rfl⟩
    · simp only [beq_iff_eq, hc, if_false] at h
      split at h
      · omega
      · obtain ⟨o', rfl⟩ : ∃ o', o = o' + 1 := ⟨o - 1, by omega⟩
        obtain ⟨h1, h2⟩ := spans_some r st (p + 1) o' (by omega)
        refine ⟨by simp; omega, ?_⟩
        rw [spans_cons, if_neg hc, h2, List.drop_succ_cons, show p + 1 + o' = p + (o' + 1) from by omega]
set_option maxHeartbeats 400000 in
theorem each_c (s : ByteArray) (f : Nat) (caps : Array Value) (R : List (Nat × Nat) → World → Prop) (D : World → Prop) (w : World) (hs : s.size ≤ 17000)
    (he : ∀ args W, (callFunc f args).run Try.prog W = .ok (.enter f args) W)
    (hv : ∀ (a b : Nat) rest W, R ((a, b) :: rest) W → Calls Try.prog f (#[.int .i64 a, .int .i64 b] ++ caps) W fun e W' => ∃ go : Bool, e = .returned (.bool go) ∧ (go = true → R rest W') ∧ ((go = false ∨ rest = []) → D W'))
    (hR : R (spans s.data.toList 0 0) w) :
    Calls Try.prog 24 #[.string s, .func (.func f) #[] caps] w fun e w' => e = .returned (.tuple #[]) ∧ D w' := by
  have Hv := Lib.hid hv
  clear hv
  go_enter Try.func24, Try.ntmps24
  go_wp2_with fail
  go_loopw [4] (fun fr wr => ∃ k : Nat, k ≤ s.size ∧ fr = .int .i64 k ∧ R (spans (s.data.toList.drop k) k k) wr) (fun fr _ => s.size + 1 - (intOf fr).toNat)
  case atStart => exact ⟨0, by omega, rfl, hR⟩
  case round =>
    obtain ⟨k, hk, rfl, hr⟩ := hrel
    have hx : List.take (s.size - k) (s.data.toList.drop k) = s.data.toList.drop k := List.take_of_length_le (by simp)
    have hl : s.data.toList.length = s.size := by simp
    by_cases hn : Lib.indexByte (s.data.toList.drop k) 10 = -1
    · rw [spans_none _ _ _ hn, List.length_drop, hl, show k + (s.size - k) = s.size from by omega] at hr
      clear hl
      go_wp2_with (go_at_call 34; refine (Try.strings_IndexByte _ _ _).mono ?_; rintro e w' ⟨rfl, rfl⟩)
      refine (Hv.out k s.size [] _ hr).mono ?_
      rintro e w' ⟨go, rfl, h1, h2⟩
      go_wp2
      exact bodyPost_ret (results_none rfl _ _ _) rfl ⟨rfl, by simpa using h2⟩
    · obtain ⟨o, ho⟩ : ∃ o : Nat, Lib.indexByte (s.data.toList.drop k) 10 = o := ⟨(Lib.indexByte (s.data.toList.drop k) 10).toNat, by have := Lib.indexByte_ge (s.data.toList.drop k) 10; omega⟩
      obtain ⟨hol, hsp⟩ := spans_some _ k k o ho
      rw [List.length_drop, hl] at hol
      rw [hsp, List.drop_drop, show k + (o + 1) = k + o + 1 from by omega] at hr
      have h0 : (0 : Int) ≤ o := by omega
      clear hl hsp hn
      go_wp2_with (go_at_call 34; refine (Try.strings_IndexByte _ _ _).mono ?_; rintro e w' ⟨rfl, rfl⟩)
      refine (Hv.out k (k + o) _ _ hr).mono ?_
      rintro e w' ⟨go, rfl, h1, h2⟩
      rcases go with _ | _
      · go_wp2
        exact bodyPost_ret (results_none rfl _ _ _) rfl ⟨rfl, by simpa using h2⟩
      · go_wp2
        go_roundw
        case rel => exact ⟨k + o + 1, by omega, by go_num, by simpa using h1⟩
        case measure => simp [intOf]; omega
end Go.Proofs.Ytdiaghmkbplipaa
