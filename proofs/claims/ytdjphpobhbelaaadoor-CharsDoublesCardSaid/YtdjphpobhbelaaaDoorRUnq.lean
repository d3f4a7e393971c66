/- The contracts of the reference's single, double, piece and Unquote. -/
import Derived.Test.YtdjphpobhbelaaaDoorUnq2
import Derived.Test.YtdjphpobhbelaaaDoorRCh
namespace Go.Proofs.YtdjphpobhbelaaaDoor
open Go.RowKit

theorem uq_cons_at {s : ByteArray} {k : Nat} (h : k < s.size) (q : Nat) (e : Bool) : uq q e (s.data.toList.drop k) = uq q e ((s[k]'h) :: s.data.toList.drop (k + 1)) := by
  rw [List.drop_eq_getElem_cons (show k < s.data.toList.length from h)]
  rfl
theorem drop_end (s : ByteArray) : s.data.toList.drop s.size = [] := List.drop_of_length_le (Nat.le_refl _)

/-- What an element's reader gives: the bytes, the place behind, the error's number. -/
def PieceOk (q : Nat) (s : ByteArray) (a : Nat) (t : List UInt8) (next e : Nat) : Prop :=
  (e = 0 ∧ a < next ∧ next ≤ s.size ∧ t.length ≤ next ∧ ∀ xs, preU xs (uq q false (s.data.toList.drop a)) = preU (xs ++ t) (uq 0 false (s.data.toList.drop next))) ∨ (e ≠ 0 ∧ t = [] ∧ next = 0 ∧ ∀ xs, preU xs (uq q false (s.data.toList.drop a)) = (e, []))

set_option maxHeartbeats 1000000 in
theorem single_c (s : ByteArray) (a : Nat) (w : World) (hs : s.size ≤ 8100) (ha : a < s.size) :
    Calls Tryd.prog 51 #[.string s, .int .i64 a] w fun e w' => ∃ (t : ByteArray) (next er : Nat), e = .returned (.tuple #[.string t, .int .i64 next, .int .i64 er]) ∧ PieceOk 39 s (a + 1) t.data.toList next er ∧ w = w' := by
  go_enter Tryd.func51, Tryd.ntmps51
  go_wp2_with fail
  go_loop [7] (fun ev => ∃ k : Nat, a + 1 ≤ k ∧ k ≤ s.size ∧ ev = .int .i64 k ∧ Hid (∀ xs, preU xs (uq 39 false (s.data.toList.drop (a + 1))) = preU (xs ++ (s.data.toList.drop (a + 1)).take (k - (a + 1))) (uq 39 false (s.data.toList.drop k)))) (fun ev => s.size - (intOf ev).toNat)
  case atStart => exact ⟨a + 1, by omega, by omega, by go_num, Lib.hid (by simp)⟩
  case round =>
    obtain ⟨k, hk1, hk2, rfl, hx⟩ := hrel
    by_cases hlt : k < s.size
    · have i1 : (k : Int) < (s.size : Int) := by omega
      have d1 : decide ((k : Int) < (s.size : Int)) = true := decide_eq_true i1
      have n1 : decide (k < s.size) = true := decide_eq_true hlt
      by_cases hq : (s[k]'hlt).toNat = 39
      · have t1 : (((s[k]'hlt).toNat : Int) != 39) = false := by rw [hq]; rfl
        have t0 : ((k : Int) == (s.size : Int)) = false := by rw [beq_eq_false_iff_ne]; omega
        have t0' : (k == s.size) = false := by rw [beq_eq_false_iff_ne]; omega
        have hres : ∀ xs, preU xs (uq 39 false (s.data.toList.drop (a + 1))) = preU (xs ++ (s.data.toList.drop (a + 1)).take (k - (a + 1))) (uq 0 false (s.data.toList.drop (k + 1))) := fun xs => by
          have h39 : s[k]'hlt = 39 := u8_of (v := 39) (by omega) hq
          rw [hx.out, uq_cons_at hlt, uq, if_neg (by simp), if_pos ⟨by omega, hq⟩]
        have Hres := Lib.hid hres
        have j1 : (a : Int) + 1 ≤ (k : Int) := by omega
        have j2 : (k : Int) ≤ (s.size : Int) := by omega
        have j3 : (a : Int) < (k : Int) := by omega
        have j4 : a < k := by omega
        have j5 : (0 : Int) ≤ (a : Int) + 1 := by omega
        clear hq hres
        go_wp2_with fail
        go_ret3
        refine ⟨s.extract (a + 1) k, k + 1, 0, rfl, .inl ⟨rfl, by omega, by omega, ?_, fun xs => ?_⟩, rfl⟩
        · rw [Lib.extract_data, List.length_take]; omega
        · rw [Lib.extract_data]; exact Hres.out xs
      · have t1 : (((s[k]'hlt).toNat : Int) != 39) = true := by rw [bne_iff_ne]; omega
        have hx2 : Hid (∀ xs, preU xs (uq 39 false (s.data.toList.drop (a + 1))) = preU (xs ++ (s.data.toList.drop (a + 1)).take (k + 1 - (a + 1))) (uq 39 false (s.data.toList.drop (k + 1)))) := Lib.hid (fun xs => by
          rw [hx.out, uq_cons_at hlt, uq, if_neg (by simp), if_neg (by omega), if_neg (by omega), if_neg (by simp [okU]), preU_preU]
          have := take_more s.data.toList (a + 1) k [s[k]'hlt] (s.data.toList.drop (k + 1)) hk1 (by rw [List.drop_eq_getElem_cons (show k < s.data.toList.length from hlt)]; rfl)
          simp only [List.length_cons, List.length_nil] at this
          rw [this, List.append_assoc])
        clear hq
        go_wp2_with fail
        go_round
        case rel => exact ⟨k + 1, by omega, by omega, by go_num, hx2⟩
        case measure => simp [intOf]; omega
    · have hks : k = s.size := by omega
      subst hks
      have d1 : decide ((s.size : Int) < (s.size : Int)) = false := decide_eq_false (by omega)
      go_wp2_with fail
      go_ret3
      refine ⟨⟨#[]⟩, 0, 7, rfl, .inr ⟨by omega, rfl, rfl, fun xs => ?_⟩, rfl⟩
      rw [hx.out, drop_end]
      simp [uq, preU]

theorem ext_one {s : ByteArray} {k : Nat} (h : k < s.size) : (s.extract k (k + 1)).data.toList = [s[k]'h] := by
  rw [Lib.extract_data, show k + 1 - k = 1 from by omega, List.drop_eq_getElem_cons (show k < s.data.toList.length from h)]
  rfl
theorem ext_two {s : ByteArray} {k : Nat} (h : k + 1 < s.size) : (s.extract k (k + 2)).data.toList = [s[k]'(by omega), s[k + 1]'h] := by
  rw [Lib.extract_data, show k + 2 - k = 2 from by omega, List.drop_eq_getElem_cons (show k < s.data.toList.length from by have : s.data.toList.length = s.size := rfl; omega), List.drop_eq_getElem_cons (show k + 1 < s.data.toList.length from h)]
  rfl

set_option maxHeartbeats 4000000 in
theorem double_c (s : ByteArray) (a : Nat) (w : World) (hs : s.size ≤ 8100) (ha : a < s.size) :
    Calls Tryd.prog 52 #[.string s, .int .i64 a] w fun e w' => ∃ (t : ByteArray) (next er : Nat), e = .returned (.tuple #[.string t, .int .i64 next, .int .i64 er]) ∧ PieceOk 34 s (a + 1) t.data.toList next er ∧ w = w' := by
  go_enter Tryd.func52, Tryd.ntmps52
  go_wp2_with fail
  go_loop [7, 8] (fun ov iv => ∃ (k : Nat) (out : ByteArray), a + 1 ≤ k ∧ k ≤ s.size ∧ iv = .int .i64 k ∧ ov = .string out ∧ out.size ≤ k ∧ Hid (∀ xs, preU xs (uq 34 false (s.data.toList.drop (a + 1))) = preU (xs ++ out.data.toList) (uq 34 false (s.data.toList.drop k)))) (fun _ iv => s.size - (intOf iv).toNat)
  case atStart => exact ⟨a + 1, ⟨#[]⟩, by omega, by omega, by go_num, rfl, Nat.zero_le _, Lib.hid (by simp)⟩
  case round =>
    obtain ⟨k, out, hk1, hk2, rfl, rfl, hos, hx⟩ := hrel
    by_cases hlt : k < s.size
    · have i1 : (k : Int) < (s.size : Int) := by omega
      have d1 : decide ((k : Int) < (s.size : Int)) = true := decide_eq_true i1
      have n1 : decide (k < s.size) = true := decide_eq_true hlt
      have huc := fun xs => (hx.out xs).trans (by rw [uq_cons_at hlt])
      have t0 : ((k : Int) == (s.size : Int)) = false := by rw [beq_eq_false_iff_ne]; omega
      have t0' : (k == s.size) = false := by rw [beq_eq_false_iff_ne]; omega
      have Huc := Lib.hid huc
      clear huc
      by_cases q34 : (s[k]'hlt).toNat = 34
      · have h34 : s[k]'hlt = 34 := u8_of (v := 34) (by omega) q34
        have t1 : (((s[k]'hlt).toNat : Int) != 34) = false := by rw [q34]; rfl
        have hres : ∀ xs, preU xs (uq 34 false (s.data.toList.drop (a + 1))) = preU (xs ++ out.data.toList) (uq 0 false (s.data.toList.drop (k + 1))) := fun xs => by
          rw [Huc.out xs, uq, if_neg (by rw [h34]; simp), if_pos ⟨by omega, q34⟩]
        have Hres := Lib.hid hres
        clear q34 h34 hres
        go_wp2_with fail
        go_ret3
        exact ⟨out, k + 1, 0, rfl, .inl ⟨rfl, by omega, by omega, by show out.size ≤ _; omega, Hres.out⟩, rfl⟩
      have t1 : (((s[k]'hlt).toNat : Int) != 34) = true := by rw [bne_iff_ne]; omega
      by_cases q36 : (s[k]'hlt).toNat = 36 ∨ (s[k]'hlt).toNat = 96
      · have hres : ∀ xs, preU xs (uq 34 false (s.data.toList.drop (a + 1))) = (6, []) := fun xs => by
          rw [Huc.out xs, uq, if_neg (by rintro ⟨h, _⟩; rw [h] at q36; revert q36; decide), if_neg (by omega), if_neg (by omega), if_pos (by simp [okU]; omega)]
          simp [preU]
        have Hres := Lib.hid hres
        clear hres q34
        rcases q36 with q | q
        · have t2 : (((s[k]'hlt).toNat : Int) == 36) = true := by rw [q]; rfl
          clear q
          go_wp2_with fail
          go_ret3
          exact ⟨⟨#[]⟩, 0, 6, rfl, .inr ⟨by omega, rfl, rfl, Hres.out⟩, rfl⟩
        · have t2 : (((s[k]'hlt).toNat : Int) == 36) = false := by rw [q]; rfl
          have t3 : (((s[k]'hlt).toNat : Int) == 96) = true := by rw [q]; rfl
          clear q
          go_wp2_with fail
          go_ret3
          exact ⟨⟨#[]⟩, 0, 6, rfl, .inr ⟨by omega, rfl, rfl, Hres.out⟩, rfl⟩
      have t2 : (((s[k]'hlt).toNat : Int) == 36) = false := by rw [beq_eq_false_iff_ne]; omega
      have t3 : (((s[k]'hlt).toNat : Int) == 96) = false := by rw [beq_eq_false_iff_ne]; omega
      have j1 : (k : Int) ≤ (k : Int) + 1 := by omega
      have j2 : (k : Int) + 1 ≤ (s.size : Int) := by omega
      by_cases q92 : (s[k]'hlt).toNat = 92
      · have h92 : s[k]'hlt = 92 := u8_of (v := 92) (by omega) q92
        have t4 : (((s[k]'hlt).toNat : Int) != 92) = false := by rw [q92]; rfl
        have hesc : ∀ xs, preU xs (uq 34 false (s.data.toList.drop (a + 1))) = preU (xs ++ out.data.toList) (uq 34 true (s.data.toList.drop (k + 1))) := fun xs => by
          rw [Huc.out xs, uq, if_pos ⟨h92, by omega⟩]
        have Hesc := Lib.hid hesc
        have H92 := Lib.hid h92
        clear hesc q34 q36 q92 h92
        by_cases hend : k + 1 = s.size
        · have t5 : ((k : Int) + 1 == (s.size : Int)) = true := by rw [beq_iff_eq]; omega
          have hres : ∀ xs, preU xs (uq 34 false (s.data.toList.drop (a + 1))) = (7, []) := fun xs => by
            rw [Hesc.out xs, hend, drop_end]
            simp [uq, preU]
          have Hres := Lib.hid hres
          clear hres hend
          go_wp2_with fail
          go_ret3
          exact ⟨⟨#[]⟩, 0, 7, rfl, .inr ⟨by omega, rfl, rfl, Hres.out⟩, rfl⟩
        · have t5 : ((k : Int) + 1 == (s.size : Int)) = false := by rw [beq_eq_false_iff_ne]; omega
          have hk1' : k + 1 < s.size := by omega
          have i2 : (k : Int) + 1 < (s.size : Int) := by omega
          have i3 : (k : Int) + 2 ≤ (s.size : Int) := by omega
          have i4 : (k : Int) + 1 ≤ (k : Int) + 2 := by omega
          have i5 : (k : Int) ≤ (k : Int) + 2 := by omega
          have huc2 := fun xs => (Hesc.out xs).trans (by rw [uq_cons_at hk1'])
          have Huc2 := Lib.hid huc2
          clear huc2
          have e1 := ext_one hk1'
          have e2 := ext_two hk1'
          have z1 : (s.extract (k + 1) (k + 2)).size = 1 := congrArg List.length e1
          have z2 : (s.extract k (k + 2)).size = 2 := congrArg List.length e2
          have E1 := Lib.hid e1; have E2 := Lib.hid e2
          clear e1 e2
          by_cases hes : among escS (s[k + 1]'hk1').toNat = true
          · have hx2 : Hid (∀ xs, preU xs (uq 34 false (s.data.toList.drop (a + 1))) = preU (xs ++ (out ++ s.extract (k + 1) (k + 2)).data.toList) (uq 34 false (s.data.toList.drop (k + 2)))) := Lib.hid (fun xs => by
              rw [Huc2.out xs, uq, if_neg (by rintro h; rw [h] at hes; revert hes; decide), if_pos (.inr hes), preU_preU]
              have : (out ++ s.extract (k + 1) (k + 2)).data.toList = out.data.toList ++ [s[k + 1]'hk1'] := by rw [← E1.out]; simp
              rw [this, List.append_assoc])
            have Z1 := Lib.hid z1
            have z1' : (s.extract (k + 1) (k + 2)).size ≤ 1 := by omega
            clear z1 z2 hend
            go_wp2_with fail
            refine (has_c escS _ _ (by decide)).mono ?_
            rintro e w' ⟨rfl, rfl⟩
            go_wp2_with fail
            go_round
            case rel => exact ⟨k + 2, _, by omega, by omega, by go_num, rfl, by have := Z1.out; simp at this ⊢; omega, hx2⟩
            case measure => simp [intOf]; omega
          · have hes' : among escS (s[k + 1]'hk1').toNat = false := by simpa using hes
            by_cases q10 : (s[k + 1]'hk1').toNat = 10
            · have h10 : s[k + 1]'hk1' = 10 := u8_of (v := 10) (by omega) q10
              have t6 : (((s[k + 1]'hk1').toNat : Int) != 10) = false := by rw [q10]; rfl
              have hx2 : Hid (∀ xs, preU xs (uq 34 false (s.data.toList.drop (a + 1))) = preU (xs ++ out.data.toList) (uq 34 false (s.data.toList.drop (k + 2)))) := Lib.hid (fun xs => by
                rw [Huc2.out xs, uq, if_pos h10])
              clear z1 z2 hend hes q10 h10
              go_wp2_with fail
              refine (has_c escS _ _ (by decide)).mono ?_
              rintro e w' ⟨rfl, rfl⟩
              go_wp2_with fail
              go_round
              case rel => exact ⟨k + 2, _, by omega, by omega, by go_num, rfl, by omega, hx2⟩
              case measure => simp [intOf]; omega
            · have t6 : (((s[k + 1]'hk1').toNat : Int) != 10) = true := by rw [bne_iff_ne]; omega
              have hx2 : Hid (∀ xs, preU xs (uq 34 false (s.data.toList.drop (a + 1))) = preU (xs ++ (out ++ s.extract k (k + 2)).data.toList) (uq 34 false (s.data.toList.drop (k + 2)))) := Lib.hid (fun xs => by
                rw [Huc2.out xs, uq, if_neg (by rintro h; rw [h] at q10; exact q10 rfl), if_neg (by rintro (h | h); omega; exact hes h), preU_preU]
                have : (out ++ s.extract k (k + 2)).data.toList = out.data.toList ++ [92, s[k + 1]'hk1'] := by rw [← H92.out, ← E2.out]; simp
                rw [this, List.append_assoc])
              have Z2 := Lib.hid z2
              have z2' : (s.extract k (k + 2)).size ≤ 2 := by omega
              clear z1 z2 hend hes q10
              go_wp2_with fail
              refine (has_c escS _ _ (by decide)).mono ?_
              rintro e w' ⟨rfl, rfl⟩
              go_wp2_with fail
              go_round
              case rel => exact ⟨k + 2, _, by omega, by omega, by go_num, rfl, by have := Z2.out; simp at this ⊢; omega, hx2⟩
              case measure => simp [intOf]; omega
      · have t4 : (((s[k]'hlt).toNat : Int) != 92) = true := by rw [bne_iff_ne]; omega
        have e1 := ext_one hlt
        have z1 : (s.extract k (k + 1)).size = 1 := congrArg List.length e1
        have hx2 : Hid (∀ xs, preU xs (uq 34 false (s.data.toList.drop (a + 1))) = preU (xs ++ (out ++ s.extract k (k + 1)).data.toList) (uq 34 false (s.data.toList.drop (k + 1)))) := Lib.hid (fun xs => by
          rw [Huc.out xs, uq, if_neg (by rintro ⟨h, _⟩; rw [h] at q92; exact q92 rfl), if_neg (by omega), if_neg (by omega), if_neg (by simp [okU]; omega), preU_preU]
          have : (out ++ s.extract k (k + 1)).data.toList = out.data.toList ++ [s[k]'hlt] := by rw [← e1]; simp
          rw [this, List.append_assoc])
        have Z1 := Lib.hid z1
        have z1' : (s.extract k (k + 1)).size ≤ 1 := by omega
        clear e1 z1 q34 q36 q92
        go_wp2_with fail
        go_round
        case rel => exact ⟨k + 1, _, by omega, by omega, by go_num, rfl, by have := Z1.out; simp at this ⊢; omega, hx2⟩
        case measure => simp [intOf]; omega
    · have hks : k = s.size := by omega
      subst hks
      have d1 : decide ((s.size : Int) < (s.size : Int)) = false := decide_eq_false (by omega)
      go_wp2_with fail
      go_ret3
      refine ⟨⟨#[]⟩, 0, 7, rfl, .inr ⟨by omega, rfl, rfl, fun xs => ?_⟩, rfl⟩
      rw [hx.out, drop_end]
      simp [uq, preU]
end Go.Proofs.YtdjphpobhbelaaaDoor
