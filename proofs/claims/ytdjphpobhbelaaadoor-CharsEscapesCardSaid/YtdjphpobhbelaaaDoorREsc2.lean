/- The contract of the reference's Escape. -/
import Derived.Test.YtdjphpobhbelaaaDoorREsc
namespace Go.Proofs.YtdjphpobhbelaaaDoor
open Go.RowKit

/-- The escaped bytes. -/
def escL (l : List UInt8) : List UInt8 := l.flatMap fun c => (escB c).data.toList

theorem escB_size (c : UInt8) : (escB c).size ≤ 4 := by
  unfold escB
  repeat' split
  all_goals (first | exact (by decide) | exact Nat.le_refl 4 | (show 1 ≤ 4; decide))

set_option maxHeartbeats 2000000 in
theorem rEscape_c (s : ByteArray) (w : World) (hs : s.size ≤ 10000) :
    Calls Tryd.prog 23 #[.string s] w fun e w' => e = .returned (.string ⟨(escL s.data.toList).toArray⟩) ∧ Below w.heap.size w w' := by
  have HL : Hid (⟨(escL s.data.toList).toArray⟩ = (⟨(escL s.data.toList).toArray⟩ : ByteArray)) := Lib.hid rfl
  generalize hRes : (⟨(escL s.data.toList).toArray⟩ : ByteArray) = Res
  have HR : Hid (Res.data.toList = escL s.data.toList) := Lib.hid (by rw [← hRes])
  clear hRes HL
  go_enter Tryd.func23, Tryd.ntmps23
  go_wp2_with fail
  go_loopw [3, 4] (fun ov iv wr => ∃ (k : Nat) (out : ByteArray), k ≤ s.size ∧ iv = .int .i64 k ∧ ov = .string out ∧ out.size ≤ 4 * k ∧ Hid (out.data.toList = escL (s.data.toList.take k)) ∧ Below w.heap.size w wr) (fun _ iv _ => s.size - (intOf iv).toNat)
  case atStart => exact ⟨0, ⟨#[]⟩, by omega, rfl, rfl, Nat.zero_le _, Lib.hid (by simp [escL]), Below.refl _ _⟩
  case round =>
    obtain ⟨k, out, hk, rfl, rfl, hos, hx, hb⟩ := hrel
    by_cases hlt : k < s.size
    · have i1 : (k : Int) < (s.size : Int) := by omega
      have d1 : decide ((k : Int) < (s.size : Int)) = true := decide_eq_true i1
      have n1 : decide (k < s.size) = true := decide_eq_true hlt
      have hl : k < s.data.toList.length := hlt
      have htk : s.data.toList.take (k + 1) = s.data.toList.take k ++ [s[k]'hlt] := by
        rw [List.take_add_one, List.getElem?_eq_getElem hl]; rfl
      have hx2 : Hid ((out ++ escB (s[k]'hlt)).data.toList = escL (s.data.toList.take (k + 1))) := Lib.hid (by
        rw [htk, show escL (s.data.toList.take k ++ [s[k]'hlt]) = escL (s.data.toList.take k) ++ (escB (s[k]'hlt)).data.toList from by simp [escL], ← hx.out]
        simp)
      have z1 : (escB (s[k]'hlt)).size ≤ 4 := escB_size _
      clear htk
      go_wp2_with fail
      refine (rescape_c (s[k]'hlt) _).mono ?_
      rintro e w1 ⟨rfl, hb1⟩
      have hb2 : Below w.heap.size w w1 := hb.trans (hb1.mono hb.size)
      go_wp2_with fail
      go_roundw
      case rel => exact ⟨k + 1, _, by omega, by go_num, rfl, by simp; omega, hx2, hb2⟩
      case measure => simp [intOf]; omega
    · have hks : k = s.size := by omega
      subst hks
      have d1 : decide ((s.size : Int) < (s.size : Int)) = false := decide_eq_false (by omega)
      have hR : Res = out := by
        apply ByteArray.ext
        apply Array.ext'
        rw [HR.out, hx.out, show s.data.toList.take s.size = s.data.toList from List.take_of_length_le (Nat.le_refl _)]
      subst hR
      go_wp2_with fail
      go_ret
      exact ⟨rfl, hb⟩
end Go.Proofs.YtdjphpobhbelaaaDoor
