/- heredoc: HeredocStrips. -/
import Derived.Test.YtlenmkcafoiefabGreatDoorHdQ
import Derived.Test.YtlenmkcafoiefabGreatDoorHdA
namespace Go.Proofs.YtlenmkcafoiefabGreatDoor
open Go.RowKit
set_option linter.unusedVariables false

set_option maxHeartbeats 4000000 in
set_option maxRecDepth 100000 in
theorem strips_walk (s : ByteArray) (W : World) : Calls Tryz.prog 6 #[.string s] W fun e w' => e = .returned (.bool true) ∧ Below W.heap.size W w' := by
  have HA := Lib.hid (fun w => awake_c w)
  by_cases h : s.size ≤ 2000
  · have d1 : decide ((2000 : Int) < (s.size : Int)) = false := decide_eq_false (by omega)
    have d1' : decide (2000 < s.size) = false := decide_eq_false (by omega)
    have hle := strip_le s
    have HS := Lib.hid (fun w => Strip_c s w (by omega))
    have HR := Lib.hid (fun w => RStrip_c s w (by omega))
    have HT := Lib.hid (fun w => Strip_c (stripS s) w (by omega))
    rw [strip_idem] at HT
    generalize stripS s = t at *
    go_enter Tryz.func6, Tryz.ntmps6
    go_wp2_with fail
    refine (HS.out _).mono ?_
    rintro e w1 ⟨rfl, m1⟩
    go_wp2_with fail
    refine (HR.out _).mono ?_
    rintro e w2 ⟨rfl, rfl⟩
    go_wp2_with fail
    refine (HT.out _).mono ?_
    rintro e w3 ⟨rfl, m3⟩
    go_wp2_with fail
    refine (HA.out _).mono ?_
    rintro e w4 ⟨rfl, m4⟩
    go_wp2_with fail
    go_ret
    have q1 := m1.size
    have q3 := m3.size
    exact ⟨rfl, (m1.trans (m3.mono q1)).trans (m4.mono (by omega))⟩
  · have d1 : decide ((2000 : Int) < (s.size : Int)) = true := decide_eq_true (by omega)
    have d1' : decide (2000 < s.size) = true := decide_eq_true (by omega)
    go_enter Tryz.func6, Tryz.ntmps6
    go_wp2_with fail
    refine (HA.out _).mono ?_
    rintro e w4 ⟨rfl, m4⟩
    go_wp2_with fail
    go_ret
    exact ⟨rfl, m4⟩
end Go.Proofs.YtlenmkcafoiefabGreatDoor
