/-
  DERIVED. GIVEN WITH THE SEED: THE CARDS: each row of YtdjphpobhbelaaaDoorRows.lean that lists a variable, with what it lists TIED to the program's text (the seventh form; the later family's looks); each row that meets fmt, with fmt's text TOLD by the authors' own Lean function (tested against real Go, not proved from fmt's source: count such statements apart). THE CARD IS WHAT COUNTS. Prove the row's statement (the work); the ties are given (YtdjphpobhbelaaaDoorTie.lean); close each card by the builder's one call (the guide's Derived/Test/ToyasCard.lean, 'card_holds'). Laid BY PROGRAM, IN A SANDBOX (cutbox-door.mjs). By AI agents, Wed Nov 11 2026. No macro, syntax, notation, axiom, sorry.
-/
import Derived.Test.YtdjphpobhbelaaaDoorRows
import GoSem.ClaimSeven
namespace Go.Proofs.YtdjphpobhbelaaaDoor
namespace Rows

/-- THE TIED CARD OF 'jobshelllaw01.CharsNames'. -/
def charsNamesCard : Claim7 := { stood := { row := charsNamesRow, standIns := [], harness := (true, "c6dc4082d1591cea93be465acedbdcd1c1563108da6dde8f1fb0e57b8572cb3b"), looks := false }, kinds := [], alts := [], laidByText := true, laidKinds := [.data, .pinned], laidTests := true, laidLooks := .later }
def CharsNamesCardSaid : Prop := Claim7.holds Tryd.pinned (.plain (OpenSpec.ofChange charsNamesSpec)) charsNamesCard

/-- THE TIED CARD OF 'jobshelllaw01.CharsQuotes'. -/
def charsQuotesCard : Claim7 := { stood := { row := charsQuotesRow, standIns := [], harness := (true, "c6dc4082d1591cea93be465acedbdcd1c1563108da6dde8f1fb0e57b8572cb3b"), looks := false }, kinds := [], alts := [], laidByText := true, laidKinds := [.data, .pinned], laidTests := true, laidLooks := .later }
def CharsQuotesCardSaid : Prop := Claim7.holds Tryd.pinned (.plain (OpenSpec.ofChange charsQuotesSpec)) charsQuotesCard

/-- THE TIED CARD OF 'jobshelllaw01.CharsUnquotes'. -/
def charsUnquotesCard : Claim7 := { stood := { row := charsUnquotesRow, standIns := [], harness := (true, "c6dc4082d1591cea93be465acedbdcd1c1563108da6dde8f1fb0e57b8572cb3b"), looks := false }, kinds := [], alts := [], laidByText := true, laidKinds := [.data, .pinned], laidTests := true, laidLooks := .later }
def CharsUnquotesCardSaid : Prop := Claim7.holds Tryd.pinned (.plain (OpenSpec.ofChange charsUnquotesSpec)) charsUnquotesCard

/-- THE TIED CARD OF 'jobshelllaw01.CharsBack'. -/
def charsBackCard : Claim7 := { stood := { row := charsBackRow, standIns := [], harness := (true, "c6dc4082d1591cea93be465acedbdcd1c1563108da6dde8f1fb0e57b8572cb3b"), looks := false }, kinds := [], alts := [], laidByText := true, laidKinds := [.data, .pinned], laidTests := true, laidLooks := .later }
def CharsBackCardSaid : Prop := Claim7.holds Tryd.pinned (.plain (OpenSpec.ofChange charsBackSpec)) charsBackCard

/-- THE TIED CARD OF 'jobshelllaw01.CharsDoubles'. -/
def charsDoublesCard : Claim7 := { stood := { row := charsDoublesRow, standIns := [], harness := (true, "c6dc4082d1591cea93be465acedbdcd1c1563108da6dde8f1fb0e57b8572cb3b"), looks := false }, kinds := [], alts := [], laidByText := true, laidKinds := [.data, .pinned], laidTests := true, laidLooks := .later }
def CharsDoublesCardSaid : Prop := Claim7.holds Tryd.pinned (.plain (OpenSpec.ofChange charsDoublesSpec)) charsDoublesCard

/-- THE TIED CARD OF 'jobshelllaw01.CharsEscapes'. -/
def charsEscapesCard : Claim7 := { stood := { row := charsEscapesRow, standIns := [], harness := (true, "c6dc4082d1591cea93be465acedbdcd1c1563108da6dde8f1fb0e57b8572cb3b"), looks := false }, kinds := [], alts := [], laidByText := true, laidKinds := [.data, .pinned], laidTests := true, laidLooks := .later }
def CharsEscapesCardSaid : Prop := Claim7.holds Tryd.pinned (.plain (OpenSpec.ofChange charsEscapesSpec)) charsEscapesCard

/-- THE TIED CARD OF 'jobshelllaw01.CharsUnescapes'. -/
def charsUnescapesCard : Claim7 := { stood := { row := charsUnescapesRow, standIns := [], harness := (true, "c6dc4082d1591cea93be465acedbdcd1c1563108da6dde8f1fb0e57b8572cb3b"), looks := false }, kinds := [], alts := [], laidByText := true, laidKinds := [.data, .pinned], laidTests := true, laidLooks := .later }
def CharsUnescapesCardSaid : Prop := Claim7.holds Tryd.pinned (.plain (OpenSpec.ofChange charsUnescapesSpec)) charsUnescapesCard

/-- THE SECOND FORM's CARD OF 'jobshelllaw01.CharsNames'. -/
def charsNamesUptoCard : Claim7 := { stood := { row := charsNamesUptoRow, standIns := [], harness := (true, "c6dc4082d1591cea93be465acedbdcd1c1563108da6dde8f1fb0e57b8572cb3b"), looks := false }, kinds := [], alts := [], laidByText := true, laidKinds := [.data, .pinned], laidTests := true, laidLooks := .later }
def CharsNamesUptoCardSaid : Prop := Claim7.holds Tryd.pinned (.plain (OpenSpec.upto charsNamesSpec)) charsNamesUptoCard

/-- THE SECOND FORM's CARD OF 'jobshelllaw01.CharsQuotes'. -/
def charsQuotesUptoCard : Claim7 := { stood := { row := charsQuotesUptoRow, standIns := [], harness := (true, "c6dc4082d1591cea93be465acedbdcd1c1563108da6dde8f1fb0e57b8572cb3b"), looks := false }, kinds := [], alts := [], laidByText := true, laidKinds := [.data, .pinned], laidTests := true, laidLooks := .later }
def CharsQuotesUptoCardSaid : Prop := Claim7.holds Tryd.pinned (.plain (OpenSpec.upto charsQuotesSpec)) charsQuotesUptoCard

/-- THE SECOND FORM's CARD OF 'jobshelllaw01.CharsUnquotes'. -/
def charsUnquotesUptoCard : Claim7 := { stood := { row := charsUnquotesUptoRow, standIns := [], harness := (true, "c6dc4082d1591cea93be465acedbdcd1c1563108da6dde8f1fb0e57b8572cb3b"), looks := false }, kinds := [], alts := [], laidByText := true, laidKinds := [.data, .pinned], laidTests := true, laidLooks := .later }
def CharsUnquotesUptoCardSaid : Prop := Claim7.holds Tryd.pinned (.plain (OpenSpec.upto charsUnquotesSpec)) charsUnquotesUptoCard

/-- THE SECOND FORM's CARD OF 'jobshelllaw01.CharsBack'. -/
def charsBackUptoCard : Claim7 := { stood := { row := charsBackUptoRow, standIns := [], harness := (true, "c6dc4082d1591cea93be465acedbdcd1c1563108da6dde8f1fb0e57b8572cb3b"), looks := false }, kinds := [], alts := [], laidByText := true, laidKinds := [.data, .pinned], laidTests := true, laidLooks := .later }
def CharsBackUptoCardSaid : Prop := Claim7.holds Tryd.pinned (.plain (OpenSpec.upto charsBackSpec)) charsBackUptoCard

/-- THE SECOND FORM's CARD OF 'jobshelllaw01.CharsDoubles'. -/
def charsDoublesUptoCard : Claim7 := { stood := { row := charsDoublesUptoRow, standIns := [], harness := (true, "c6dc4082d1591cea93be465acedbdcd1c1563108da6dde8f1fb0e57b8572cb3b"), looks := false }, kinds := [], alts := [], laidByText := true, laidKinds := [.data, .pinned], laidTests := true, laidLooks := .later }
def CharsDoublesUptoCardSaid : Prop := Claim7.holds Tryd.pinned (.plain (OpenSpec.upto charsDoublesSpec)) charsDoublesUptoCard

/-- THE SECOND FORM's CARD OF 'jobshelllaw01.CharsEscapes'. -/
def charsEscapesUptoCard : Claim7 := { stood := { row := charsEscapesUptoRow, standIns := [], harness := (true, "c6dc4082d1591cea93be465acedbdcd1c1563108da6dde8f1fb0e57b8572cb3b"), looks := false }, kinds := [], alts := [], laidByText := true, laidKinds := [.data, .pinned], laidTests := true, laidLooks := .later }
def CharsEscapesUptoCardSaid : Prop := Claim7.holds Tryd.pinned (.plain (OpenSpec.upto charsEscapesSpec)) charsEscapesUptoCard

/-- THE SECOND FORM's CARD OF 'jobshelllaw01.CharsUnescapes'. -/
def charsUnescapesUptoCard : Claim7 := { stood := { row := charsUnescapesUptoRow, standIns := [], harness := (true, "c6dc4082d1591cea93be465acedbdcd1c1563108da6dde8f1fb0e57b8572cb3b"), looks := false }, kinds := [], alts := [], laidByText := true, laidKinds := [.data, .pinned], laidTests := true, laidLooks := .later }
def CharsUnescapesUptoCardSaid : Prop := Claim7.holds Tryd.pinned (.plain (OpenSpec.upto charsUnescapesSpec)) charsUnescapesUptoCard
end Rows
end Go.Proofs.YtdjphpobhbelaaaDoor
