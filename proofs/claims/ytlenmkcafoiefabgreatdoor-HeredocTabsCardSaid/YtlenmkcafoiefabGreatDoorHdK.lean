/- What the cards of heredoc share: the world of the witness, and the table of powers of ten. -/
import Derived.Test.YtlenmkcafoiefabGreatDoorArgs
import Derived.Test.YtlenmkcafoiefabGreatDoorCards
import Derived.Test.YtlenmkcafoiefabGreatDoorTie
import Derived.Test.YtlenmkcafoiefabGreatDoorHdA
import Derived.Deep.DeepHandedRow
import Derived.Lib.LaidTab
import Derived.Lib.LaidU8T
import Derived.Lib.LaidIn
import Derived.Lib.ItoaNum
import Derived.Stop.LaidErr
import Derived.Lib.TrailingZeros
namespace Go.Proofs.YtlenmkcafoiefabGreatDoor
open Go.ChangeShapes Go.WideShapes Go.ChangeAt Go.RowKit Go.Lib

/-- What the rows list. -/
noncomputable def laidL : List (String × DataW Unit) := [("math/bits.deBruijn32tab", Rows.laid_math_bits_deBruijn32tab), ("math/bits.deBruijn64tab", Rows.laid_math_bits_deBruijn64tab), ("internal/strconv.uint64pow10", Rows.laid_internal_strconv_uint64pow10), ("unicode/utf8.acceptRanges", Rows.laid_unicode_utf8_acceptRanges), ("jobshell/words.operators", Rows.laid_jobshell_words_operators), ("unicode/utf8.first", Rows.laid_unicode_utf8_first)]
/-- The settled world, the tables holding what their initialisers lay. -/
noncomputable def laidWorld (os : Os) : World :=
  let w0 := World.holding Tryz.prog os ⟨#[], #[], []⟩
  let put (h : Array Obj) (g : Nat) (cs : Array Value) : Array Obj := h.modify g fun
    | .cells _ t frozen => .cells cs t frozen
    | o => o
  let h1 := put w0.heap 2 (Lib.firstTab.map fun z => Value.int .u8 z).toArray
  let h2 := put h1 3 ((List.range 16).flatMap fun i => [Value.int .u8 (Lib.accLo i), Value.int .u8 (Lib.accHi i)]).toArray
  let h3 := put h2 4 (Lib.deBruijn32tab.map fun z : Nat => Value.int .u8 (z : Int)).toArray
  let h4 := put h3 5 (Lib.deBruijn64tab.map fun z : Nat => Value.int .u8 (z : Int)).toArray
  let h5 := put h4 0 (Lib.pow10Tab.map fun z => Value.int .u64 z).toArray
  let h6 := put h5 6 #[.string ⟨#[]⟩, .string ⟨#[45]⟩, .string ⟨#[61]⟩, .string ⟨#[63]⟩, .string ⟨#[43]⟩, .string ⟨#[]⟩, .string ⟨#[37]⟩, .string ⟨#[37, 37]⟩, .string ⟨#[35]⟩, .string ⟨#[35, 35]⟩]
  { w0 with heap := h6 }
noncomputable def laidL2 : List (String × DataW Unit) := [("math/bits.deBruijn32tab", Rows.laid_math_bits_deBruijn32tab), ("math/bits.deBruijn64tab", Rows.laid_math_bits_deBruijn64tab), ("internal/strconv.uint64pow10", Lib.tabData .u64 Lib.pow10Tab), ("unicode/utf8.acceptRanges", Lib.acceptData), ("jobshell/words.operators", Rows.laid_jobshell_words_operators), ("unicode/utf8.first", Lib.firstData)]
theorem laidL_eq : laidL = laidL2 := by kernel_rfl
theorem laid_met (os : Os) (args : Array Value) : laidMet Tryz.prog laidL ((laidWorld os).forCall (fun _ _ => 0) ⟨#[], args, []⟩).memory := by
  rw [laidL_eq]
  exact (LaidIn.of_run (l := laidL2) [4, 5, 0, 3, 6, 2] 8 (by kernel_rfl) (by kernel_rfl) (by kernel_rfl) (by kernel_rfl)).met
/-- The powers of ten. -/
def Env (W : World) (_ : Nat) : Prop := Lib.TabIs Tryz.prog W "internal/strconv.uint64pow10" .u64 Lib.pow10Tab
theorem env_of {W : World} (hL : laidMetH Tryz.prog laidL W) (_ : W.ShapedOpen Tryz.prog) : Env W W.heap.size := by
  have hL2 : laidMet Tryz.prog laidL W := hL
  rw [laidL_eq] at hL2
  exact Lib.tabIs_of_head (g := 0) (t := 151) (e := 140) (n := 20) (by kernel_rfl) (by kernel_rfl) (by kernel_rfl) (by kernel_rfl) (by kernel_rfl) (by kernel_rfl) (laidMet.tail (laidMet.tail hL2))
end Go.Proofs.YtlenmkcafoiefabGreatDoor
