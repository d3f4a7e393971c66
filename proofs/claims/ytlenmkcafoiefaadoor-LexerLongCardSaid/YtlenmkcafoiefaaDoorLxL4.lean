/- lexer: texts that are too long, and one that is not. -/
import Derived.Test.YtlenmkcafoiefaaDoorLxL0
namespace Go.Proofs.YtlenmkcafoiefaaDoor
open Go.RowKit
set_option linter.unusedVariables false

theorem nextL_long {s : ByteArray} {a : Int} (h : 16384 < s.size) : nextL s a = (Tk.none, 3) := by unfold nextL; rw [if_pos h]
theorem allL_long {s : ByteArray} (h : 16384 < s.size) : allL s = ([], 0, 3) := by
  unfold allL
  rw [allF, nextL_long h]
  rfl
theorem nextL_err {s : ByteArray} {a : Int} (h : ¬ 16384 < s.size) : (nextL s a).2 ≠ 3 := by
  unfold nextL
  rw [if_neg h]
  have hin := endL_in (skipL_le s.data.toList a)
  rcases he : endL s.data.toList (skipL s.data.toList a) with ⟨e, x⟩
  rw [he] at hin
  rcases x with _ | x
  · simp
  · have := hin.2.2
    simp only at this ⊢
    omega
theorem allF_err {s : ByteArray} (h : ¬ 16384 < s.size) : ∀ (F k : Nat) (acc : List Tk), (allF F s k acc).2.2 ≠ 3
  | 0, k, acc => by simp [allF]
  | F + 1, k, acc => by
    rw [allF]
    by_cases h1 : (nextL s k).2 ≠ 0
    · rw [if_pos h1]; exact nextL_err h
    rw [if_neg h1]
    by_cases h2 : (nextL s k).1.kind = 5
    · rw [if_pos h2]; simp
    · rw [if_neg h2]; exact allF_err h F _ _
theorem closL_long {l : List UInt8} {a : Int} (h : 16384 < l.length) : closL l a = (0, 3) := by unfold closL; rw [if_pos h]
theorem closL_a {r : List UInt8} (h : ¬ 16384 < (39 :: 97 :: 39 :: r : List UInt8).length) : closL (39 :: 97 :: 39 :: r) 0 = (3, 0) := by
  unfold closL
  rw [if_neg h, if_neg]
  · show pasL (39 :: 97 :: 39 :: r) 0 0 = (3, 0)
    unfold pasL
    rw [show 2 * (39 :: 97 :: 39 :: r : List UInt8).length + 2 = (2 * (39 :: 97 :: 39 :: r : List UInt8).length + 1) + 1 from rfl, passF_39 (by rfl)]
    unfold singL
    have e : fndL 39 ((39 :: 97 :: 39 :: r : List UInt8).drop (0 + 1)) = 1 := rfl
    rw [e, if_pos (by simp)]
  · simp only [List.length_cons, not_or]
    refine ⟨by omega, by omega, ?_⟩
    show ¬ begB (39 :: 97 :: 39 :: r) 0 = false
    unfold begB
    rw [show bt (39 :: 97 :: 39 :: r) 0 = 39 from rfl]
    simp
end Go.Proofs.YtlenmkcafoiefaaDoor
