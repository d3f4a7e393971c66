/- heredoc: the lines of a text, as functions; the ends of lines; tabs and newlines cut off. -/
import Derived.Test.YtlenmkcafoiefabGreatDoorLxD
namespace Go.Proofs.YtlenmkcafoiefabGreatDoor
open Go.RowKit
set_option linter.unusedVariables false

/-- The offset behind the line at p. -/
def endN (s : List UInt8) (p : Nat) : Nat := if fndL 10 (s.drop p) < s.length - p then p + fndL 10 (s.drop p) + 1 else s.length
theorem endN_gt {s : List UInt8} {p : Nat} (h : p < s.length) : p < endN s p ∧ endN s p ≤ s.length := by
  unfold endN
  split
  · omega
  · omega
/-- The lines from p on, each with its offset. -/
def lnsF : Nat → ByteArray → Nat → List (Nat × ByteArray)
  | 0, _, _ => []
  | F + 1, s, p => if s.size ≤ p then [] else (p, s.extract p (endN s.data.toList p)) :: lnsF F s (endN s.data.toList p)
def lnsL (s : ByteArray) (p : Nat) : List (Nat × ByteArray) := lnsF (s.size + 1) s p
theorem lnsF_ge {s : ByteArray} {p : Nat} (h : s.size ≤ p) : ∀ F, lnsF F s p = []
  | 0 => rfl
  | F + 1 => by rw [lnsF, if_pos h]
theorem lnsF_succ {s : ByteArray} : ∀ (F p : Nat), s.size - p < F → lnsF (F + 1) s p = lnsF F s p
  | 0, p, h => by omega
  | F + 1, p, h => by
    by_cases hl : s.size ≤ p
    · rw [lnsF_ge hl, lnsF_ge hl]
    · have := endN_gt (s := s.data.toList) (p := p) (by rw [lenS]; omega)
      rw [lenS] at this
      have e1 : lnsF (F + 1 + 1) s p = (p, s.extract p (endN s.data.toList p)) :: lnsF (F + 1) s (endN s.data.toList p) := by rw [lnsF, if_neg hl]
      have e2 : lnsF (F + 1) s p = (p, s.extract p (endN s.data.toList p)) :: lnsF F s (endN s.data.toList p) := by rw [lnsF, if_neg hl]
      rw [e1, e2, lnsF_succ F _ (by omega)]
theorem lnsF_fuel {s : ByteArray} {p F : Nat} (h : s.size - p < F) : ∀ D, lnsF (F + D) s p = lnsF F s p
  | 0 => rfl
  | D + 1 => by rw [show F + (D + 1) = (F + D) + 1 from rfl, lnsF_succ _ _ (by omega), lnsF_fuel h D]
theorem lnsL_cons {s : ByteArray} {p : Nat} (h : p < s.size) : lnsL s p = (p, s.extract p (endN s.data.toList p)) :: lnsL s (endN s.data.toList p) := by
  have := endN_gt (s := s.data.toList) (p := p) (by rw [lenS]; omega)
  rw [lenS] at this
  have e1 : lnsF (s.size + 1) s p = (p, s.extract p (endN s.data.toList p)) :: lnsF s.size s (endN s.data.toList p) := by rw [lnsF, if_neg (by omega)]
  unfold lnsL
  rw [e1, lnsF_succ s.size (endN s.data.toList p) (by omega)]
theorem lnsL_nil {s : ByteArray} {p : Nat} (h : s.size ≤ p) : lnsL s p = [] := lnsF_ge h _
theorem lnsF_len {s : ByteArray} : ∀ (F p : Nat), (lnsF F s p).length ≤ s.size - p
  | 0, p => by simp [lnsF]
  | F + 1, p => by
    by_cases hl : s.size ≤ p
    · rw [lnsF_ge hl]; simp
    · have := endN_gt (s := s.data.toList) (p := p) (by rw [lenS]; omega)
      rw [lenS] at this
      rw [lnsF, if_neg hl, List.length_cons]
      have := lnsF_len (s := s) F (endN s.data.toList p)
      omega
set_option maxHeartbeats 4000000 in
set_option maxRecDepth 100000 in
theorem end_c (s : ByteArray) (a : Nat) (w : World) (hs : s.size ≤ 140737488355328) (ha : a ≤ s.size) : Calls Tryz.prog 62 #[.string s, .int .i64 a] w fun e w' => e = .returned (.int .i64 (endN s.data.toList a : Nat)) ∧ w = w' := by
  have hix := idxS_c (s.extract a s.size) 10 w
  rw [dropS] at hix
  have hle := fndL_le 10 (s.data.toList.drop a)
  unfold endN
  generalize hn : fndL 10 (s.data.toList.drop a) = n at *
  rw [List.length_drop, lenS] at hix hle
  rw [lenS]
  by_cases h : n < s.size - a
  · rw [if_pos h] at hix ⊢
    obtain ⟨m, hm⟩ : ∃ m : Int, m = (n : Int) := ⟨_, rfl⟩
    rw [← hm] at hix
    have hrs : (a : Int) + m + 1 = ((a + n + 1 : Nat) : Int) := by omega
    have Hrs := Lib.hid hrs
    have d1 : decide (m < (0 : Int)) = false := decide_eq_false (by omega)
    have b1 : (0 : Int) ≤ (a : Int) + m := by omega
    have b2 : (a : Int) + m ≤ 140737488355328 := by omega
    have Hix := Lib.hid hix
    clear hix hm hrs hn
    go_enter Tryz.func62, Tryz.ntmps62
    go_wp2_with fail
    refine Hix.out.mono ?_
    rintro e w7 ⟨rfl, rfl⟩
    go_wp2_with fail
    go_ret
    exact ⟨by rw [Hrs.out]; rfl, rfl⟩
  · rw [if_neg h] at hix ⊢
    obtain ⟨m, hm⟩ : ∃ m : Int, m = -1 := ⟨_, rfl⟩
    rw [← hm] at hix
    have d1 : decide (m < (0 : Int)) = true := decide_eq_true (by omega)
    have Hix := Lib.hid hix
    clear hix hm hn h hle
    go_enter Tryz.func62, Tryz.ntmps62
    go_wp2_with fail
    refine Hix.out.mono ?_
    rintro e w7 ⟨rfl, rfl⟩
    go_wp2_with fail
    go_ret
    exact ⟨rfl, rfl⟩
/-- A text without the tabs that it begins with. -/
def tabL (s : ByteArray) : ByteArray := ⟨(Lib.trimLeftB s.data.toList 9).toArray⟩
set_option maxHeartbeats 4000000 in
set_option maxRecDepth 100000 in
theorem tabs_c (s : ByteArray) (w : World) : Calls Tryz.prog 39 #[.string s] w fun e w' => e = .returned (.string (tabL s)) ∧ w = w' := by
  have h := Tryz.strings_TrimLeft_one s 9 (by decide) w
  rw [show (⟨(Lib.trimLeftB s.data.toList 9).toArray⟩ : ByteArray) = tabL s from rfl] at h
  have H := Lib.hid h
  clear h
  generalize tabL s = r at *
  go_enter Tryz.func39, Tryz.ntmps39
  go_wp2_with fail
  refine H.out.mono ?_
  rintro e w7 ⟨rfl, rfl⟩
  go_wp2_with fail
  go_ret
  exact ⟨rfl, rfl⟩
end Go.Proofs.YtlenmkcafoiefabGreatDoor
