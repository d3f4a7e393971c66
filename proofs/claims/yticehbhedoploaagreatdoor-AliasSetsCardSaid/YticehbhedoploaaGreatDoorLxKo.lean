/- lexer: what Next answers lies within the text. -/
import Derived.Test.YticehbhedoploaaGreatDoorLxJ
namespace Go.Proofs.YticehbhedoploaaGreatDoor
open Go.RowKit
set_option linter.unusedVariables false

theorem kindL_five {s : List UInt8} {p e : Nat} (h : kindL s p e ≠ 5) : e ≠ p := by
  intro h2
  apply h
  unfold kindL
  rw [if_pos h2]
theorem clamp_nat {k n : Nat} (h : k ≤ n) : clamp (k : Int) n = k := by
  unfold clamp
  rw [if_neg (by omega)]
  split <;> omega
theorem next_ok {s : ByteArray} {k : Nat} (hk : k ≤ s.size) (h : (nextL s k).2 = 0) : s.size ≤ 16384 ∧ (nextL s k).1.fin ≤ s.size ∧ k ≤ (nextL s k).1.pos ∧ (nextL s k).1.pos ≤ (nextL s k).1.fin ∧ ((nextL s k).1.kind ≠ 5 → (nextL s k).1.pos < (nextL s k).1.fin) := by
  unfold nextL at h ⊢
  by_cases h1 : 16384 < s.size
  · rw [if_pos h1] at h; simp at h
  rw [if_neg h1] at h ⊢
  have hp := skipL_le s.data.toList k
  have hp2 : k ≤ skipL s.data.toList k := by
    have := (skipF_le (s := s.data.toList) (s.data.toList.length + 1) _ (clamp_le (k : Int) s.data.toList.length)).2
    rw [clamp_nat (by rw [lenS]; exact hk)] at this
    unfold skipL
    rw [clamp_nat (by rw [lenS]; exact hk)]
    exact this
  generalize skipL s.data.toList k = p at *
  have hin := endL_in hp
  rcases he : endL s.data.toList p with ⟨e, x⟩
  rw [he] at h hin
  obtain ⟨i1, i2, i3⟩ := hin
  rw [lenS] at i1
  simp only at i1 i2
  rcases x with _ | x
  · have hpe := i2 rfl
    refine ⟨by omega, i1, hp2, hpe, fun h5 => ?_⟩
    have := kindL_five h5
    show p < e
    omega
  · simp at h
end Go.Proofs.YticehbhedoploaaGreatDoor
