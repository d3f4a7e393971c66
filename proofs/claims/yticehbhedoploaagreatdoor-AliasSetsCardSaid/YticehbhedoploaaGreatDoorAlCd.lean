/- What the cards of alias share: the world of the witness. -/
import Derived.Test.YticehbhedoploaaGreatDoorArgs
import Derived.Test.YticehbhedoploaaGreatDoorCards
import Derived.Test.YticehbhedoploaaGreatDoorTie
import Derived.Test.YticehbhedoploaaGreatDoorAlK2
import Derived.Deep.DeepHandedRow
import Derived.Lib.LaidTab
import Derived.Lib.LaidU8T
import Derived.Lib.LaidIn
namespace Go.Proofs.YticehbhedoploaaGreatDoor
open Go.ChangeShapes Go.WideShapes Go.ChangeAt Go.RowKit Go.Lib

/-- What the rows list. -/
noncomputable def laidL : List (String × DataW Unit) := [("unicode/utf8.acceptRanges", Rows.laid_unicode_utf8_acceptRanges), ("jobshell/source.operators", Rows.laid_jobshell_source_operators), ("unicode/utf8.first", Rows.laid_unicode_utf8_first)]
/-- The settled world, the tables holding what their initialisers lay. -/
noncomputable def laidWorld (os : Os) : World :=
  let w0 := World.holding Tryz.prog os ⟨#[], #[], []⟩
  let put (h : Array Obj) (g : Nat) (cs : Array Value) : Array Obj := h.modify g fun
    | .cells _ t frozen => .cells cs t frozen
    | o => o
  let h1 := put w0.heap 2 (Lib.firstTab.map fun z => Value.int .u8 z).toArray
  let h2 := put h1 3 ((List.range 16).flatMap fun i => [Value.int .u8 (Lib.accLo i), Value.int .u8 (Lib.accHi i)]).toArray
  let h6 := put h2 6 #[.string ⟨#[]⟩, .string ⟨#[45]⟩, .string ⟨#[61]⟩, .string ⟨#[63]⟩, .string ⟨#[43]⟩, .string ⟨#[]⟩, .string ⟨#[37]⟩, .string ⟨#[37, 37]⟩, .string ⟨#[35]⟩, .string ⟨#[35, 35]⟩]
  { w0 with heap := h6 }
noncomputable def laidL2 : List (String × DataW Unit) := [("unicode/utf8.acceptRanges", Lib.acceptData), ("jobshell/source.operators", Rows.laid_jobshell_source_operators), ("unicode/utf8.first", Lib.firstData)]
theorem laidL_eq : laidL = laidL2 := by kernel_rfl
theorem laid_met (os : Os) (args : Array Value) : laidMet Tryz.prog laidL ((laidWorld os).forCall (fun _ _ => 0) ⟨#[], args, []⟩).memory := by
  rw [laidL_eq]
  exact (LaidIn.of_run (l := laidL2) [3, 6, 2] 8 (by kernel_rfl) (by kernel_rfl) (by kernel_rfl) (by kernel_rfl)).met
def Env (_ : World) (_ : Nat) : Prop := True
theorem env_of {W : World} (_ : laidMetH Tryz.prog laidL W) (_ : W.ShapedOpen Tryz.prog) : Env W W.heap.size := trivial
end Go.Proofs.YticehbhedoploaaGreatDoor
