/- The contract of the reference's Same, at two slices that read alike. -/
import Derived.Test.YtdiaghmkbplipaaMath
import Derived.Test.YtdiaghmkbplipaaProg
import Derived.WalkKit
import Derived.BigCall
import Derived.Lib.Hide
import Derived.Deep.QuietTactic
import Derived.BigQuiet
import Derived.WalkSmall
import Derived.Deep.Draws
namespace Go.Proofs.Ytdiaghmkbplipaa
open Go.RowKit

set_option maxHeartbeats 1000000 in
theorem same_c (A A' : Option Addr) (c c' : Nat) (es : List Ed) (w : World) (hl : es.length ≤ 300) (hA : EdAt w w.heap.size A es) (hA' : EdAt w w.heap.size A' es) :
    Calls Try.prog 20 #[.slice A es.length c, .slice A' es.length c'] w fun e w' => e = .returned (.bool true) ∧ Below w.heap.size w w' := by
  go_enter Try.func20, Try.ntmps20
  go_wp2_with fail
  go_loopw [5] (fun iv wr => ∃ k : Nat, k ≤ es.length ∧ iv = .int .i64 k ∧ Below w.heap.size w wr) (fun iv _ => es.length - (intOf iv).toNat)
  case atStart => exact ⟨0, by omega, rfl, Below.refl _ _⟩
  case round =>
    obtain ⟨k, hk, rfl, hb⟩ := hrel
    by_cases hlt : k < es.length
    · obtain ⟨b, off, rfl, had, hc⟩ := (hA.below hb) (by omega)
      obtain ⟨b', off', rfl, had', hc'⟩ := (hA'.below hb) (by omega)
      obtain ⟨c0, c1, c2⟩ := hc k es[k] (List.getElem?_eq_getElem hlt)
      obtain ⟨d0, d1, d2⟩ := hc' k es[k] (List.getElem?_eq_getElem hlt)
      clear hc hc'
      have i0 : (k : Int) < (es.length : Int) := by omega
      generalize es[k] = e at *
      go_wp2_with fail
      go_quiet (fail)
      go_wp2_with fail
      go_roundw
      case rel => exact ⟨k + 1, by omega, by go_num, below_drewN hb _⟩
      case measure => simp [intOf]; omega
    · have d1 : decide ((k : Int) < (es.length : Int)) = false := decide_eq_false (by omega)
      go_wp2_with fail
      go_ret
      exact ⟨rfl, hb⟩
end Go.Proofs.Ytdiaghmkbplipaa
