/-
  No cell of these rows narrows 'for every input' (looked for: loops, veiled, ifaces, maps, wideKeys, modest, calm, conditions, laid).
  DERIVED. THE GIVEN ROWS OF THIS SEAT. 5 by the template 'for every input the law returns true; each argument reads behind the call as it read before'; 0 by the template 'total and deterministic' (their statements: YtdiaghmkbplipaaTotals.lean).
  GIVEN WITH THE SEED: the statements are not yours to turn. If you find one false, say at which input.
  Laid BY PROGRAM, IN A SANDBOX (cutbox-rows.mjs): the forced cells as the released guide's own fill.sh prints them over the translation 148f07575061449d… (all of the seat's roots in one cut). By AI agents, Wed Nov 11 2026. No macro, syntax, notation, axiom, sorry.
-/
import Derived.Test.YtdiaghmkbplipaaChecked
import GoSem.Claim
import GoSem.ClaimJoined
import GoSem.ClaimMapViews
import Derived.JoinedTies
import Derived.KernelRfl
namespace Go.Proofs.Ytdiaghmkbplipaa
/- THE CELL 'sum', in the pinned program and in every row, IS THE sha256 OF THE DUMP (.gsa) THAT YtdiaghmkbplipaaProg.lean LOADS. Nothing in Lean hashes anything: it is a label: what it is worth is what the hold of that sum in a sandbox is worth. -/
noncomputable def Try.pinned : Pinned := { name := "ytdiaghmkbplipaa", sum := "148f07575061449dfeb6facd13bab24ba2e8c45bd95f64e4dbbb03f3f440545c", checked := Try.checked }
namespace Rows
def none {H : Type} : Left H := { results := [], args := [] }

/-- 'jobshelllaw02.EditsPlaces': WHATEVER THE INPUT: true; the input reads as it did. -/
def editsPlacesSpec : ChangeSpec := { name := "editsPlaces", fn := fun _ => fun
  | [d1, d2] => { results := [.lit (.bool true)], args := [d1, d2] }
  | _ => none }
def editsPlacesRow : OpenClaim := { program := "ytdiaghmkbplipaa", sum := "148f07575061449dfeb6facd13bab24ba2e8c45bd95f64e4dbbb03f3f440545c", func := "jobshell/jobshelllaw02.EditsPlaces", spec := "editsPlaces", inPlace := ["internal/abi.NoEscape", "internal/bytealg.IndexByteString"], unfollowed := true, recurses := true, apart := false }
def EditsPlacesSaid : Prop := editsPlacesRow.holds Try.pinned (OpenSpec.ofChange editsPlacesSpec)

/-- ITS FALSE NEIGHBOUR: 'it returns false'. Refute it at one input. -/
def editsPlacesWrong : ChangeSpec := { name := "editsPlaces", fn := fun _ => fun
  | [d1, d2] => { results := [.lit (.bool false)], args := [d1, d2] }
  | _ => none }
def EditsPlacesWrongFalsely : Prop := editsPlacesRow.holds Try.pinned (OpenSpec.ofChange editsPlacesWrong)

/-- 'jobshelllaw02.EditsOffsets': WHATEVER THE INPUT: true; the input reads as it did. -/
def editsOffsetsSpec : ChangeSpec := { name := "editsOffsets", fn := fun _ => fun
  | [d1, d2, d3] => { results := [.lit (.bool true)], args := [d1, d2, d3] }
  | _ => none }
def editsOffsetsRow : OpenClaim := { program := "ytdiaghmkbplipaa", sum := "148f07575061449dfeb6facd13bab24ba2e8c45bd95f64e4dbbb03f3f440545c", func := "jobshell/jobshelllaw02.EditsOffsets", spec := "editsOffsets", inPlace := ["internal/abi.NoEscape", "internal/bytealg.IndexByteString"], unfollowed := true, recurses := true, apart := false }
def EditsOffsetsSaid : Prop := editsOffsetsRow.holds Try.pinned (OpenSpec.ofChange editsOffsetsSpec)

/-- ITS FALSE NEIGHBOUR: 'it returns false'. Refute it at one input. -/
def editsOffsetsWrong : ChangeSpec := { name := "editsOffsets", fn := fun _ => fun
  | [d1, d2, d3] => { results := [.lit (.bool false)], args := [d1, d2, d3] }
  | _ => none }
def EditsOffsetsWrongFalsely : Prop := editsOffsetsRow.holds Try.pinned (OpenSpec.ofChange editsOffsetsWrong)

/-- 'jobshelllaw02.EditsLines': WHATEVER THE INPUT: true; the input reads as it did. -/
def editsLinesSpec : ChangeSpec := { name := "editsLines", fn := fun _ => fun
  | [d] => { results := [.lit (.bool true)], args := [d] }
  | _ => none }
def editsLinesRow : OpenClaim := { program := "ytdiaghmkbplipaa", sum := "148f07575061449dfeb6facd13bab24ba2e8c45bd95f64e4dbbb03f3f440545c", func := "jobshell/jobshelllaw02.EditsLines", spec := "editsLines", inPlace := ["internal/abi.NoEscape", "internal/bytealg.IndexByteString"], unfollowed := true, recurses := true, apart := false }
def EditsLinesSaid : Prop := editsLinesRow.holds Try.pinned (OpenSpec.ofChange editsLinesSpec)

/-- ITS FALSE NEIGHBOUR: 'it returns false'. Refute it at one input. -/
def editsLinesWrong : ChangeSpec := { name := "editsLines", fn := fun _ => fun
  | [d] => { results := [.lit (.bool false)], args := [d] }
  | _ => none }
def EditsLinesWrongFalsely : Prop := editsLinesRow.holds Try.pinned (OpenSpec.ofChange editsLinesWrong)

/-- 'jobshelllaw02.EditsApplies': WHATEVER THE INPUT: true; the input reads as it did. -/
def editsAppliesSpec : ChangeSpec := { name := "editsApplies", fn := fun _ => fun
  | [d1, d2] => { results := [.lit (.bool true)], args := [d1, d2] }
  | _ => none }
def editsAppliesRow : OpenClaim := { program := "ytdiaghmkbplipaa", sum := "148f07575061449dfeb6facd13bab24ba2e8c45bd95f64e4dbbb03f3f440545c", func := "jobshell/jobshelllaw02.EditsApplies", spec := "editsApplies", inPlace := ["internal/abi.NoEscape", "internal/bytealg.IndexByteString"], unfollowed := true, recurses := true, apart := false }
def EditsAppliesSaid : Prop := editsAppliesRow.holds Try.pinned (OpenSpec.ofChange editsAppliesSpec)

/-- ITS FALSE NEIGHBOUR: 'it returns false'. Refute it at one input. -/
def editsAppliesWrong : ChangeSpec := { name := "editsApplies", fn := fun _ => fun
  | [d1, d2] => { results := [.lit (.bool false)], args := [d1, d2] }
  | _ => none }
def EditsAppliesWrongFalsely : Prop := editsAppliesRow.holds Try.pinned (OpenSpec.ofChange editsAppliesWrong)

/-- 'jobshelllaw02.EditsInverts': WHATEVER THE INPUT: true; the input reads as it did. -/
def editsInvertsSpec : ChangeSpec := { name := "editsInverts", fn := fun _ => fun
  | [d1, d2] => { results := [.lit (.bool true)], args := [d1, d2] }
  | _ => none }
def editsInvertsRow : OpenClaim := { program := "ytdiaghmkbplipaa", sum := "148f07575061449dfeb6facd13bab24ba2e8c45bd95f64e4dbbb03f3f440545c", func := "jobshell/jobshelllaw02.EditsInverts", spec := "editsInverts", inPlace := ["internal/abi.NoEscape", "internal/bytealg.IndexByteString"], unfollowed := true, recurses := true, apart := false }
def EditsInvertsSaid : Prop := editsInvertsRow.holds Try.pinned (OpenSpec.ofChange editsInvertsSpec)

/-- ITS FALSE NEIGHBOUR: 'it returns false'. Refute it at one input. -/
def editsInvertsWrong : ChangeSpec := { name := "editsInverts", fn := fun _ => fun
  | [d1, d2] => { results := [.lit (.bool false)], args := [d1, d2] }
  | _ => none }
def EditsInvertsWrongFalsely : Prop := editsInvertsRow.holds Try.pinned (OpenSpec.ofChange editsInvertsWrong)

/- THE SECOND FORM. 'bulk': how many values and letters a reading holds, each counted each time it is reached (what is shared counts as often as it is met; a slice's spare places count too). A statement '..UptoSaid' is the law's where the arguments, and the package variables that the reading takes, are together of bulk at most 1048576: NARROWER than '..Said'. Prove '..Said' where nothing that the law and all that it calls make is longer than what came in: it says more and counts as full. Else prove '..UptoSaid'. A law counts once. -/
mutual
def uptoBulk {H : Type} : DataW H → Nat
  | .lit (.string bytes) => bytes.length + 1
  | .lit _ => 1
  | .nil => 1
  | .ptr d => uptoBulk d + 1
  | .slice elems spare => uptoBulkAll elems + uptoBulkAll spare + 1
  | .agg parts => uptoBulkAll parts + 1
  | .iface _ d => uptoBulk d + 1
  | .map entries => uptoBulkEntries entries + 1
  | .held _ => 1
def uptoBulkAll {H : Type} : List (DataW H) → Nat
  | [] => 0
  | d :: r => uptoBulk d + uptoBulkAll r
def uptoBulkEntries {H : Type} : List (Lit × DataW H) → Nat
  | [] => 0
  | x :: r => uptoBulkEntry x + uptoBulkEntries r
def uptoBulkEntry {H : Type} : Lit × DataW H → Nat
  | (.string bytes, d) => bytes.length + uptoBulk d + 1
  | (_, d) => uptoBulk d + 1
 end
def uptoSmall : (H : Type) → List (DataW H) → Bool := fun _ ds => decide (uptoBulkAll ds ≤ 1048576)
def OpenSpec.upto (s : _root_.Go.ChangeSpec) : _root_.Go.OpenSpec := { _root_.Go.OpenSpec.ofChange s with cond := some uptoSmall }

/-- 'jobshelllaw02.EditsPlaces', WHERE WHAT IT READS IS OF BULK AT MOST 1048576: true; the input reads as it did. -/
def editsPlacesUptoRow : OpenClaim := { program := "ytdiaghmkbplipaa", sum := "148f07575061449dfeb6facd13bab24ba2e8c45bd95f64e4dbbb03f3f440545c", func := "jobshell/jobshelllaw02.EditsPlaces", spec := "editsPlaces", inPlace := ["internal/abi.NoEscape", "internal/bytealg.IndexByteString"], unfollowed := true, recurses := true, apart := false, narrowed := true }
def EditsPlacesUptoSaid : Prop := editsPlacesUptoRow.holds Try.pinned (OpenSpec.upto editsPlacesSpec)

/-- 'jobshelllaw02.EditsOffsets', WHERE WHAT IT READS IS OF BULK AT MOST 1048576: true; the input reads as it did. -/
def editsOffsetsUptoRow : OpenClaim := { program := "ytdiaghmkbplipaa", sum := "148f07575061449dfeb6facd13bab24ba2e8c45bd95f64e4dbbb03f3f440545c", func := "jobshell/jobshelllaw02.EditsOffsets", spec := "editsOffsets", inPlace := ["internal/abi.NoEscape", "internal/bytealg.IndexByteString"], unfollowed := true, recurses := true, apart := false, narrowed := true }
def EditsOffsetsUptoSaid : Prop := editsOffsetsUptoRow.holds Try.pinned (OpenSpec.upto editsOffsetsSpec)

/-- 'jobshelllaw02.EditsLines', WHERE WHAT IT READS IS OF BULK AT MOST 1048576: true; the input reads as it did. -/
def editsLinesUptoRow : OpenClaim := { program := "ytdiaghmkbplipaa", sum := "148f07575061449dfeb6facd13bab24ba2e8c45bd95f64e4dbbb03f3f440545c", func := "jobshell/jobshelllaw02.EditsLines", spec := "editsLines", inPlace := ["internal/abi.NoEscape", "internal/bytealg.IndexByteString"], unfollowed := true, recurses := true, apart := false, narrowed := true }
def EditsLinesUptoSaid : Prop := editsLinesUptoRow.holds Try.pinned (OpenSpec.upto editsLinesSpec)

/-- 'jobshelllaw02.EditsApplies', WHERE WHAT IT READS IS OF BULK AT MOST 1048576: true; the input reads as it did. -/
def editsAppliesUptoRow : OpenClaim := { program := "ytdiaghmkbplipaa", sum := "148f07575061449dfeb6facd13bab24ba2e8c45bd95f64e4dbbb03f3f440545c", func := "jobshell/jobshelllaw02.EditsApplies", spec := "editsApplies", inPlace := ["internal/abi.NoEscape", "internal/bytealg.IndexByteString"], unfollowed := true, recurses := true, apart := false, narrowed := true }
def EditsAppliesUptoSaid : Prop := editsAppliesUptoRow.holds Try.pinned (OpenSpec.upto editsAppliesSpec)

/-- 'jobshelllaw02.EditsInverts', WHERE WHAT IT READS IS OF BULK AT MOST 1048576: true; the input reads as it did. -/
def editsInvertsUptoRow : OpenClaim := { program := "ytdiaghmkbplipaa", sum := "148f07575061449dfeb6facd13bab24ba2e8c45bd95f64e4dbbb03f3f440545c", func := "jobshell/jobshelllaw02.EditsInverts", spec := "editsInverts", inPlace := ["internal/abi.NoEscape", "internal/bytealg.IndexByteString"], unfollowed := true, recurses := true, apart := false, narrowed := true }
def EditsInvertsUptoSaid : Prop := editsInvertsUptoRow.holds Try.pinned (OpenSpec.upto editsInvertsSpec)

end Rows
end Go.Proofs.Ytdiaghmkbplipaa
