/- heredoc: HeredocDelimiters. -/
import Derived.Test.YtlenmkcafoiefabGreatDoorHdO
import Derived.Test.YtlenmkcafoiefabGreatDoorHdY
namespace Go.Proofs.YtlenmkcafoiefabGreatDoor
open Go.RowKit
set_option linter.unusedVariables false

set_option maxHeartbeats 4000000 in
set_option maxRecDepth 100000 in
theorem delims_walk (s : ByteArray) (W : World) (ws : s.size ≤ maxLen) (hE : Env W W.heap.size) : Calls Tryz.prog 7 #[.string s] W fun e w' => e = .returned (.bool true) ∧ Below W.heap.size W w' := by
  have HA := Lib.hid (fun w => awake_c w)
  unfold maxLen at ws
  by_cases h : s.size ≤ 1000
  · have d1 : decide ((1000 : Int) < (s.size : Int)) = false := decide_eq_false (by omega)
    have d1' : decide (1000 < s.size) = false := decide_eq_false (by omega)
    have HD := Lib.hid (Delim_c s W (by omega) (itoa_env hE s.size (by omega)))
    have HR := Lib.hid (fun w => RDelim_c s w (by omega))
    go_enter Tryz.func7, Tryz.ntmps7
    go_wp2_with fail
    refine HD.out.mono ?_
    rintro e w1 ⟨m, rfl, hm, hf, m1⟩
    go_wp2_with fail
    refine (HR.out _).mono ?_
    rintro e w2 ⟨⟨k, rfl, hk, hf2⟩, rfl⟩
    obtain rfl := free_uniq hf hf2
    clear hf hf2
    generalize cand m = d at *
    go_wp2_with fail
    refine (HA.out _).mono ?_
    rintro e w4 ⟨rfl, m4⟩
    go_wp2_with fail
    go_ret
    exact ⟨rfl, m1.trans (m4.mono m1.size)⟩
  · have d1 : decide ((1000 : Int) < (s.size : Int)) = true := decide_eq_true (by omega)
    have d1' : decide (1000 < s.size) = true := decide_eq_true (by omega)
    go_enter Tryz.func7, Tryz.ntmps7
    go_wp2_with fail
    refine (HA.out _).mono ?_
    rintro e w4 ⟨rfl, m4⟩
    go_wp2_with fail
    go_ret
    exact ⟨rfl, m4⟩
end Go.Proofs.YtlenmkcafoiefabGreatDoor
