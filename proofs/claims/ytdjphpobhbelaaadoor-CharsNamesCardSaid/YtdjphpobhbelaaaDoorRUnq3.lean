/- The contracts of the reference's Unquote and Quote. -/
import Derived.Test.YtdjphpobhbelaaaDoorRUnq2
namespace Go.Proofs.YtdjphpobhbelaaaDoor
open Go.RowKit

theorem back (b : ByteArray) : (⟨b.data.toList.toArray⟩ : ByteArray) = b := by cases b; simp

set_option maxHeartbeats 2000000 in
theorem runquote_c (s : ByteArray) (w : World) (hs : s.size ≤ 8100) :
    Calls Tryd.prog 20 #[.string s] w fun e w' => e = .returned (.tuple #[.string ⟨(unqL s.data.toList).2.toArray⟩, .int .i64 (unqL s.data.toList).1]) ∧ w = w' := by
  have HL : Hid (unqL s.data.toList = preU [] (uq 0 false (s.data.toList.drop 0))) := Lib.hid rfl
  generalize unqL s.data.toList = Res at *
  go_enter Tryd.func20, Tryd.ntmps20
  go_wp2_with fail
  go_loop [4, 5] (fun ov iv => ∃ (k : Nat) (out : ByteArray), k ≤ s.size ∧ iv = .int .i64 k ∧ ov = .string out ∧ out.size ≤ 8100 * k ∧ Hid (Res = preU out.data.toList (uq 0 false (s.data.toList.drop k)))) (fun _ iv => s.size - (intOf iv).toNat)
  case atStart => exact ⟨0, ⟨#[]⟩, by omega, rfl, rfl, Nat.zero_le _, HL⟩
  case round =>
    obtain ⟨k, out, hk, rfl, rfl, hos, hx⟩ := hrel
    by_cases hlt : k < s.size
    · have i1 : (k : Int) < (s.size : Int) := by omega
      have d1 : decide ((k : Int) < (s.size : Int)) = true := decide_eq_true i1
      have n1 : decide (k < s.size) = true := decide_eq_true hlt
      go_wp2_with fail
      refine (piece_c s k _ hs hlt).mono ?_
      rintro e w' ⟨t, n, er, rfl, hp, rfl⟩
      rcases hp with ⟨rfl, h2, h3, h4, h5⟩ | ⟨h1, h2, h3, h5⟩
      · have hts : t.size ≤ n := h4
        have hts2 : t.size ≤ 8100 := by omega
        have hos2 : out.size ≤ 65610000 := by omega
        have hx2 : Hid (Res = preU (out ++ t).data.toList (uq 0 false (s.data.toList.drop n))) := Lib.hid (by
          rw [hx.out, h5]
          congr 1
          try simp)
        clear h5
        go_wp2_with fail
        go_round
        case rel => exact ⟨n, _, h3, by go_num, rfl, by simp; omega, hx2⟩
        case measure => simp [intOf]; omega
      · have hR : Res = (er, []) := by rw [hx.out, h5]
        subst hR
        have t1 : ((er : Int) != 0) = true := by rw [bne_iff_ne]; omega
        clear h5 h1
        go_wp2_with fail
        go_ret2
        exact ⟨rfl, rfl⟩
    · have hks : k = s.size := by omega
      subst hks
      have d1 : decide ((s.size : Int) < (s.size : Int)) = false := decide_eq_false (by omega)
      have hR : Res = (0, out.data.toList) := by
        rw [hx.out, drop_end]
        simp [uq, preU]
      subst hR
      go_wp2_with fail
      go_ret2
      exact ⟨by rw [back]; rfl, rfl⟩

set_option maxHeartbeats 2000000 in
theorem rquote_c (s : ByteArray) (F : Bool) (hF : F = true ↔ PlainP s) (w : World) (hs : s.size ≤ 1000) :
    Calls Tryd.prog 18 #[.string s] w fun e w' => e = .returned (.string (quoteF F s)) ∧ w = w' := by
  have hP := fun W => rplain_c s F hF W hs
  have HP := Lib.hid hP
  clear hP hF
  rcases F with _ | _
  · have HQ : Hid (quoteF false s = ⟨([39] ++ s.data.toList.flatMap quoteB ++ [39]).toArray⟩) := Lib.hid rfl
    generalize quoteF false s = Res at *
    go_enter Tryd.func18, Tryd.ntmps18
    go_wp2_with fail
    refine (HP.out _).mono ?_
    rintro e w' ⟨rfl, rfl⟩
    go_wp2_with fail
    go_loop [3, 4] (fun ov iv => ∃ (k : Nat) (out : ByteArray), k ≤ s.size ∧ iv = .int .i64 k ∧ ov = .string out ∧ out.size ≤ 4 * k + 1 ∧ Hid (out.data.toList = [39] ++ (s.data.toList.take k).flatMap quoteB)) (fun _ iv => s.size - (intOf iv).toNat)
    case atStart => exact ⟨0, ⟨#[39]⟩, by omega, rfl, rfl, Nat.le_refl _, Lib.hid (by simp)⟩
    case round =>
      obtain ⟨k, out, hk, rfl, rfl, hos, hx⟩ := hrel
      by_cases hlt : k < s.size
      · have i1 : (k : Int) < (s.size : Int) := by omega
        have i2 : (k : Int) ≤ (k : Int) + 1 := by omega
        have i3 : (k : Int) + 1 ≤ (s.size : Int) := by omega
        have d1 : decide ((k : Int) < (s.size : Int)) = true := decide_eq_true i1
        have n1 : decide (k < s.size) = true := decide_eq_true hlt
        have hl : k < s.data.toList.length := hlt
        have htk : s.data.toList.take (k + 1) = s.data.toList.take k ++ [s[k]'hlt] := by
          rw [List.take_add_one, List.getElem?_eq_getElem hl]; rfl
        by_cases hq : (s[k]'hlt).toNat = 39
        · have h39 : s[k]'hlt = 39 := u8_of (v := 39) (by omega) hq
          have t1 : (((s[k]'hlt).toNat : Int) == 39) = true := eq_test (v := 39) hq
          have hx2 : Hid ((out ++ ⟨#[39, 92, 39, 39]⟩).data.toList = [39] ++ (s.data.toList.take (k + 1)).flatMap quoteB) := Lib.hid (by
            rw [htk, List.flatMap_append, h39, ← List.append_assoc, ← hx.out]
            simp [quoteB])
          clear hq h39 htk
          go_wp2_with fail
          go_round
          case rel => exact ⟨k + 1, _, by omega, by go_num, rfl, by have h4 : (⟨#[39, 92, 39, 39]⟩ : ByteArray).size = 4 := rfl; simp [h4]; omega, hx2⟩
          case measure => simp [intOf]; omega
        · have t1 : (((s[k]'hlt).toNat : Int) == 39) = false := ne_test (v := 39) hq
          have n39 : s[k]'hlt ≠ 39 := by rintro h; rw [h] at hq; exact hq rfl
          have e1 := ext_one hlt
          have z1 : (s.extract k (k + 1)).size = 1 := congrArg List.length e1
          have hx2 : Hid ((out ++ s.extract k (k + 1)).data.toList = [39] ++ (s.data.toList.take (k + 1)).flatMap quoteB) := Lib.hid (by
            have : (out ++ s.extract k (k + 1)).data.toList = out.data.toList ++ [s[k]'hlt] := by rw [← e1]; simp
            rw [this, htk, List.flatMap_append, ← List.append_assoc, ← hx.out]
            simp [quoteB, n39])
          have Z1 := Lib.hid z1
          have z1' : (s.extract k (k + 1)).size ≤ 1 := by omega
          clear hq n39 htk e1 z1
          go_wp2_with fail
          go_round
          case rel => exact ⟨k + 1, _, by omega, by go_num, rfl, by have := Z1.out; simp at this ⊢; omega, hx2⟩
          case measure => simp [intOf]; omega
      · have hks : k = s.size := by omega
        subst hks
        have d1 : decide ((s.size : Int) < (s.size : Int)) = false := decide_eq_false (by omega)
        have hR : Res = out ++ ⟨#[39]⟩ := by
          rw [HQ.out]
          have h1 := hx.out
          rw [show s.data.toList.take s.size = s.data.toList from List.take_of_length_le (Nat.le_refl _)] at h1
          rw [← h1]
          cases out; simp [ByteArray.ext_iff]
          apply Array.ext'
          simp
        subst hR
        go_wp2_with fail
        go_ret
        exact ⟨rfl, rfl⟩
  · rw [show quoteF true s = s from rfl]
    go_enter Tryd.func18, Tryd.ntmps18
    go_wp2_with fail
    refine (HP.out _).mono ?_
    rintro e w' ⟨rfl, rfl⟩
    go_wp2_with fail
    go_ret
    exact ⟨rfl, rfl⟩
end Go.Proofs.YtdjphpobhbelaaaDoor
