/- LexerKinds, LexerSkips: the laws' walks. -/
import Derived.Test.YteppndkhmbhnkaaDoorLxQ
import Derived.Test.YteppndkhmbhnkaaDoorLxRO
namespace Go.Proofs.YteppndkhmbhnkaaDoor
open Go.RowKit
set_option linter.unusedVariables false

set_option maxHeartbeats 8000000 in
set_option maxRecDepth 100000 in
theorem kinds_walk (s : ByteArray) (w : World) :
    Calls Tryd.prog 10 #[.string s] w fun e w' => e = .returned (.bool true) ∧ Below w.heap.size w w' := by
  have haw := Lib.hid (fun W => awake_c W)
  have h1 := Lib.hid (fun W => Oper_c s W)
  have h2 := Lib.hid (fun W => ROper_c s W)
  have h3 := Lib.hid (fun W => Rese_c s W)
  have h4 := Lib.hid (fun W => RRese_c s W)
  generalize opS s.data.toList = b at *
  generalize resS s.data.toList = c at *
  by_cases hl : 100 < s.size
  · have t1 : decide ((100 : Int) < (s.size : Int)) = true := decide_eq_true (by omega)
    have t1' : decide (100 < s.size) = true := decide_eq_true hl
    go_enter Tryd.func10, Tryd.ntmps10
    go_wp2_with fail
    refine (haw.out _).mono ?_
    rintro e w1 ⟨rfl, m1⟩
    go_wp2_with fail
    go_ret
    exact ⟨rfl, m1⟩
  have t1 : decide ((100 : Int) < (s.size : Int)) = false := decide_eq_false (by omega)
  have t1' : decide (100 < s.size) = false := decide_eq_false hl
  have e1 : (b == b) = true := by rw [beq_iff_eq]
  have e2 : (c == c) = true := by rw [beq_iff_eq]
  clear hl
  go_enter Tryd.func10, Tryd.ntmps10
  go_wp2_with fail
  refine (h1.out _).mono ?_
  rintro e w1 ⟨rfl, rfl⟩
  go_wp2_with fail
  refine (h2.out _).mono ?_
  rintro e w1 ⟨rfl, rfl⟩
  go_wp2_with fail
  refine (h3.out _).mono ?_
  rintro e w1 ⟨rfl, rfl⟩
  go_wp2_with fail
  refine (h4.out _).mono ?_
  rintro e w1 ⟨rfl, rfl⟩
  go_wp2_with fail
  refine (haw.out _).mono ?_
  rintro e w1 ⟨rfl, m1⟩
  go_wp2_with fail
  go_ret
  exact ⟨rfl, m1⟩
end Go.Proofs.YteppndkhmbhnkaaDoor
