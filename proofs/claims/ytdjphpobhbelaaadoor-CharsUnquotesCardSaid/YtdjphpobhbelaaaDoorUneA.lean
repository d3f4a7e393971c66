/- The contracts of chars.shortEscape, isHigh, needsHex. -/
import Derived.Test.YtdjphpobhbelaaaDoorEsc
namespace Go.Proofs.YtdjphpobhbelaaaDoor
open Go.RowKit

/-- The byte that a backslash and a rune represent, and whether they represent one. -/
def shortF (r : Int) : Int × Bool := if r = 110 then (10, true) else if r = 116 then (9, true) else if r = 92 then (92, true) else (0, false)
def highB (n : Int) : Bool := decide (n = 0 ∨ n = 1 ∨ 7 ≤ n)
def needB (n : Int) : Bool := decide (prB n = false ∧ n ≠ 10 ∧ n ≠ 9)

theorem short_c (r : Int) (w : World) : Calls Tryd.prog 42 #[.int .i32 r] w fun e w' => e = .returned (.tuple #[.int .u8 (shortF r).1, .bool (shortF r).2]) ∧ w = w' := by
  by_cases h1 : r = 110
  · subst h1
    rw [show shortF 110 = (10, true) from rfl]
    go_enter Tryd.func42, Tryd.ntmps42
    go_wp2_with fail
    go_ret2
    exact ⟨rfl, rfl⟩
  have t1 : (r == 110) = false := by rw [beq_eq_false_iff_ne]; exact h1
  by_cases h2 : r = 116
  · subst h2
    rw [show shortF 116 = (9, true) from rfl]
    clear h1 t1
    go_enter Tryd.func42, Tryd.ntmps42
    go_wp2_with fail
    go_ret2
    exact ⟨rfl, rfl⟩
  have t2 : (r == 116) = false := by rw [beq_eq_false_iff_ne]; exact h2
  by_cases h3 : r = 92
  · subst h3
    rw [show shortF 92 = (92, true) from rfl]
    clear h1 t1 h2 t2
    go_enter Tryd.func42, Tryd.ntmps42
    go_wp2_with fail
    go_ret2
    exact ⟨rfl, rfl⟩
  have t3 : (r == 92) = false := by rw [beq_eq_false_iff_ne]; exact h3
  rw [show shortF r = (0, false) from by simp [shortF, h1, h2, h3]]
  clear h1 h2 h3
  go_enter Tryd.func42, Tryd.ntmps42
  go_wp2_with fail
  go_ret2
  exact ⟨rfl, rfl⟩

theorem high_c (n : Int) (w : World) : Calls Tryd.prog 44 #[.int .i64 n] w fun e w' => e = .returned (.bool (highB n)) ∧ w = w' := by
  by_cases h1 : n = 0
  · subst h1
    rw [show highB 0 = true from rfl]
    go_enter Tryd.func44, Tryd.ntmps44
    go_wp2_with fail
    go_ret
    exact ⟨rfl, rfl⟩
  have t1 : (n == 0) = false := by rw [beq_eq_false_iff_ne]; exact h1
  by_cases h2 : n = 1
  · subst h2
    rw [show highB 1 = true from rfl]
    clear h1 t1
    go_enter Tryd.func44, Tryd.ntmps44
    go_wp2_with fail
    go_ret
    exact ⟨rfl, rfl⟩
  have t2 : (n == 1) = false := by rw [beq_eq_false_iff_ne]; exact h2
  rw [show highB n = decide ((7 : Int) ≤ n) from by unfold highB; rw [decide_eq_decide]; omega]
  clear h1 h2
  go_enter Tryd.func44, Tryd.ntmps44
  go_wp2_with fail
  go_ret
  exact ⟨rfl, rfl⟩

theorem needs_c (n : Nat) (h : n ≤ 1000) (w : World) : Calls Tryd.prog 45 #[.int .i64 n] w fun e w' => e = .returned (.bool (needB n)) ∧ w = w' := by
  by_cases h1 : prB n = true
  · rw [show needB n = false from decide_eq_false (by rintro ⟨h', _⟩; rw [h1] at h'; exact absurd h' (by decide))]
    go_enter Tryd.func45, Tryd.ntmps45
    go_wp2_with fail
    refine (printable_c _ _).mono ?_
    rintro e w' ⟨rfl, rfl⟩
    go_wp2_with fail
    go_ret
    exact ⟨rfl, rfl⟩
  have h1' : prB n = false := by simpa using h1
  by_cases h2 : n = 10
  · subst h2
    rw [show needB ((10 : Nat) : Int) = false from rfl, show ((10 : Nat) : Int) = 10 from rfl]
    go_enter Tryd.func45, Tryd.ntmps45
    go_wp2_with fail
    refine (printable_c _ _).mono ?_
    rintro e w' ⟨rfl, rfl⟩
    rw [show prB 10 = false from rfl]
    go_wp2_with fail
    go_ret
    exact ⟨rfl, rfl⟩
  have t2 : ((n : Int) == 10) = false := by rw [beq_eq_false_iff_ne]; omega
  have t2' : ((n : Int) != 10) = true := by rw [bne_iff_ne]; omega
  rw [show needB n = ((n : Int) != 9) from by unfold needB; rw [Bool.eq_iff_iff, decide_eq_true_iff, bne_iff_ne]; constructor; exact fun h => h.2.2; exact fun h => ⟨h1', by omega, h⟩]
  clear h1 h2
  go_enter Tryd.func45, Tryd.ntmps45
  go_wp2_with fail
  refine (printable_c _ _).mono ?_
  rintro e w' ⟨rfl, rfl⟩
  go_wp2_with fail
  go_ret
  exact ⟨rfl, rfl⟩
end Go.Proofs.YtdjphpobhbelaaaDoor
