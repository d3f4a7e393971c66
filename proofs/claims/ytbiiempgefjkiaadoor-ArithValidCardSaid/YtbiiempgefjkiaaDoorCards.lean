/-
  DERIVED. GIVEN WITH THE SEED: THE CARDS: each row of YtbiiempgefjkiaaDoorRows.lean that lists a variable, with what it lists TIED to the program's text (the seventh form; the later family's looks); each row that meets fmt, with fmt's text TOLD by the authors' own Lean function (tested against real Go, not proved from fmt's source: count such statements apart). THE CARD IS WHAT COUNTS. Prove the row's statement (the work); the ties are given (YtbiiempgefjkiaaDoorTie.lean); close each card by the builder's one call (the guide's Derived/Test/ToyasCard.lean, 'card_holds'). Laid BY PROGRAM, IN A SANDBOX (cutbox-door.mjs). By AI agents, Wed Nov 11 2026. No macro, syntax, notation, axiom, sorry.
-/
import Derived.Test.YtbiiempgefjkiaaDoorRows
import GoSem.ClaimSeven
namespace Go.Proofs.YtbiiempgefjkiaaDoor
namespace Rows

/-- THE TIED CARD OF 'jobshelllaw05.ArithShows'. -/
def arithShowsCard : Claim7 := { stood := { row := arithShowsRow, standIns := [], harness := (true, "a2539dc6786afef1e7c9d7c0c519ca71b1e724bbe83243772e03efbf0f1748e2"), looks := true }, kinds := [], alts := [], laidByText := true, laidKinds := [.data, .data, .data, .data], laidTests := true, laidLooks := .later }
def ArithShowsCardSaid : Prop := Claim7.holds Tryd.pinned (.plain (OpenSpec.ofChange arithShowsSpec)) arithShowsCard

/-- THE TIED CARD OF 'jobshelllaw05.ArithValid'. -/
def arithValidCard : Claim7 := { stood := { row := arithValidRow, standIns := [], harness := (true, "a2539dc6786afef1e7c9d7c0c519ca71b1e724bbe83243772e03efbf0f1748e2"), looks := true }, kinds := [], alts := [], laidByText := true, laidKinds := [.data, .data, .data, .data], laidTests := true, laidLooks := .later }
def ArithValidCardSaid : Prop := Claim7.holds Tryd.pinned (.plain (OpenSpec.ofChange arithValidSpec)) arithValidCard

/-- THE TIED CARD OF 'jobshelllaw05.ArithSame'. -/
def arithSameCard : Claim7 := { stood := { row := arithSameRow, standIns := [], harness := (true, "a2539dc6786afef1e7c9d7c0c519ca71b1e724bbe83243772e03efbf0f1748e2"), looks := true }, kinds := [], alts := [], laidByText := true, laidKinds := [.data, .data, .data, .data], laidTests := true, laidLooks := .later }
def ArithSameCardSaid : Prop := Claim7.holds Tryd.pinned (.plain (OpenSpec.ofChange arithSameSpec)) arithSameCard

/-- THE TIED CARD OF 'jobshelllaw05.ArithBack'. -/
def arithBackCard : Claim7 := { stood := { row := arithBackRow, standIns := [], harness := (true, "a2539dc6786afef1e7c9d7c0c519ca71b1e724bbe83243772e03efbf0f1748e2"), looks := true }, kinds := [], alts := [], laidByText := true, laidKinds := [.data, .data, .data, .data], laidTests := true, laidLooks := .later }
def ArithBackCardSaid : Prop := Claim7.holds Tryd.pinned (.plain (OpenSpec.ofChange arithBackSpec)) arithBackCard

/-- THE TIED CARD OF 'jobshelllaw05.ArithAgain'. -/
def arithAgainCard : Claim7 := { stood := { row := arithAgainRow, standIns := [], harness := (true, "a2539dc6786afef1e7c9d7c0c519ca71b1e724bbe83243772e03efbf0f1748e2"), looks := true }, kinds := [], alts := [], laidByText := true, laidKinds := [.data, .data, .data, .data], laidTests := true, laidLooks := .later }
def ArithAgainCardSaid : Prop := Claim7.holds Tryd.pinned (.plain (OpenSpec.ofChange arithAgainSpec)) arithAgainCard

/-- THE TIED CARD OF 'jobshelllaw05.ArithParens'. -/
def arithParensCard : Claim7 := { stood := { row := arithParensRow, standIns := [], harness := (true, "a2539dc6786afef1e7c9d7c0c519ca71b1e724bbe83243772e03efbf0f1748e2"), looks := true }, kinds := [], alts := [], laidByText := true, laidKinds := [.data, .data, .data, .data], laidTests := true, laidLooks := .later }
def ArithParensCardSaid : Prop := Claim7.holds Tryd.pinned (.plain (OpenSpec.ofChange arithParensSpec)) arithParensCard

/-- THE SECOND FORM's CARD OF 'jobshelllaw05.ArithShows'. -/
def arithShowsUptoCard : Claim7 := { stood := { row := arithShowsUptoRow, standIns := [], harness := (true, "a2539dc6786afef1e7c9d7c0c519ca71b1e724bbe83243772e03efbf0f1748e2"), looks := true }, kinds := [], alts := [], laidByText := true, laidKinds := [.data, .data, .data, .data], laidTests := true, laidLooks := .later }
def ArithShowsUptoCardSaid : Prop := Claim7.holds Tryd.pinned (.plain (OpenSpec.upto arithShowsSpec)) arithShowsUptoCard

/-- THE SECOND FORM's CARD OF 'jobshelllaw05.ArithValid'. -/
def arithValidUptoCard : Claim7 := { stood := { row := arithValidUptoRow, standIns := [], harness := (true, "a2539dc6786afef1e7c9d7c0c519ca71b1e724bbe83243772e03efbf0f1748e2"), looks := true }, kinds := [], alts := [], laidByText := true, laidKinds := [.data, .data, .data, .data], laidTests := true, laidLooks := .later }
def ArithValidUptoCardSaid : Prop := Claim7.holds Tryd.pinned (.plain (OpenSpec.upto arithValidSpec)) arithValidUptoCard

/-- THE SECOND FORM's CARD OF 'jobshelllaw05.ArithSame'. -/
def arithSameUptoCard : Claim7 := { stood := { row := arithSameUptoRow, standIns := [], harness := (true, "a2539dc6786afef1e7c9d7c0c519ca71b1e724bbe83243772e03efbf0f1748e2"), looks := true }, kinds := [], alts := [], laidByText := true, laidKinds := [.data, .data, .data, .data], laidTests := true, laidLooks := .later }
def ArithSameUptoCardSaid : Prop := Claim7.holds Tryd.pinned (.plain (OpenSpec.upto arithSameSpec)) arithSameUptoCard

/-- THE SECOND FORM's CARD OF 'jobshelllaw05.ArithBack'. -/
def arithBackUptoCard : Claim7 := { stood := { row := arithBackUptoRow, standIns := [], harness := (true, "a2539dc6786afef1e7c9d7c0c519ca71b1e724bbe83243772e03efbf0f1748e2"), looks := true }, kinds := [], alts := [], laidByText := true, laidKinds := [.data, .data, .data, .data], laidTests := true, laidLooks := .later }
def ArithBackUptoCardSaid : Prop := Claim7.holds Tryd.pinned (.plain (OpenSpec.upto arithBackSpec)) arithBackUptoCard

/-- THE SECOND FORM's CARD OF 'jobshelllaw05.ArithAgain'. -/
def arithAgainUptoCard : Claim7 := { stood := { row := arithAgainUptoRow, standIns := [], harness := (true, "a2539dc6786afef1e7c9d7c0c519ca71b1e724bbe83243772e03efbf0f1748e2"), looks := true }, kinds := [], alts := [], laidByText := true, laidKinds := [.data, .data, .data, .data], laidTests := true, laidLooks := .later }
def ArithAgainUptoCardSaid : Prop := Claim7.holds Tryd.pinned (.plain (OpenSpec.upto arithAgainSpec)) arithAgainUptoCard

/-- THE SECOND FORM's CARD OF 'jobshelllaw05.ArithParens'. -/
def arithParensUptoCard : Claim7 := { stood := { row := arithParensUptoRow, standIns := [], harness := (true, "a2539dc6786afef1e7c9d7c0c519ca71b1e724bbe83243772e03efbf0f1748e2"), looks := true }, kinds := [], alts := [], laidByText := true, laidKinds := [.data, .data, .data, .data], laidTests := true, laidLooks := .later }
def ArithParensUptoCardSaid : Prop := Claim7.holds Tryd.pinned (.plain (OpenSpec.upto arithParensSpec)) arithParensUptoCard
end Rows
end Go.Proofs.YtbiiempgefjkiaaDoor
