/-
  DERIVED. GIVEN WITH THE SEED: THE CARDS: each row of YticehbhedoploaaGreatDoorRows.lean that lists a variable, with what it lists TIED to the program's text (the seventh form; the later family's looks); each row that meets fmt, with fmt's text TOLD by the authors' own Lean function (tested against real Go, not proved from fmt's source: count such statements apart). THE CARD IS WHAT COUNTS. Prove the row's statement (the work); the ties are given (YticehbhedoploaaGreatDoorTie.lean); close each card by the builder's one call (the guide's Derived/Test/ToyasCard.lean, 'card_holds'). Laid BY PROGRAM, IN A SANDBOX (cutbox-door.mjs). By AI agents, Wed Nov 11 2026. No macro, syntax, notation, axiom, sorry.
-/
import Derived.Test.YticehbhedoploaaGreatDoorRows
import GoSem.ClaimSeven
namespace Go.Proofs.YticehbhedoploaaGreatDoor
namespace Rows

/-- THE TIED CARD OF 'jobshelllaw09.AliasValids'. -/
def aliasValidsCard : Claim7 := { stood := { row := aliasValidsRow, standIns := [], harness := (true, "2898e3e5887a5bf47c47021a3202b78165259412f150d1a049a73549785eb5f7"), looks := true }, kinds := [], alts := [], laidByText := true, laidKinds := [.data, .data, .pinned], laidTests := true, laidLooks := .later }
def AliasValidsCardSaid : Prop := Claim7.holds Tryz.pinned (.plain (OpenSpec.ofChange aliasValidsSpec)) aliasValidsCard

/-- THE TIED CARD OF 'jobshelllaw09.AliasSets'. -/
def aliasSetsCard : Claim7 := { stood := { row := aliasSetsRow, standIns := [], harness := (true, "2898e3e5887a5bf47c47021a3202b78165259412f150d1a049a73549785eb5f7"), looks := true }, kinds := [], alts := [], laidByText := true, laidKinds := [.data, .data, .pinned], laidTests := true, laidLooks := .later }
def AliasSetsCardSaid : Prop := Claim7.holds Tryz.pinned (.plain (OpenSpec.ofChange aliasSetsSpec)) aliasSetsCard

/-- THE TIED CARD OF 'jobshelllaw09.AliasUnsets'. -/
def aliasUnsetsCard : Claim7 := { stood := { row := aliasUnsetsRow, standIns := [], harness := (true, "2898e3e5887a5bf47c47021a3202b78165259412f150d1a049a73549785eb5f7"), looks := true }, kinds := [], alts := [], laidByText := true, laidKinds := [.data, .data, .pinned], laidTests := true, laidLooks := .later }
def AliasUnsetsCardSaid : Prop := Claim7.holds Tryz.pinned (.plain (OpenSpec.ofChange aliasUnsetsSpec)) aliasUnsetsCard

/-- THE TIED CARD OF 'jobshelllaw09.AliasExpands'. -/
def aliasExpandsCard : Claim7 := { stood := { row := aliasExpandsRow, standIns := [], harness := (true, "2898e3e5887a5bf47c47021a3202b78165259412f150d1a049a73549785eb5f7"), looks := true }, kinds := [], alts := [], laidByText := true, laidKinds := [.data, .data, .pinned], laidTests := true, laidLooks := .later }
def AliasExpandsCardSaid : Prop := Claim7.holds Tryz.pinned (.plain (OpenSpec.ofChange aliasExpandsSpec)) aliasExpandsCard

/-- THE TIED CARD OF 'jobshelllaw09.AliasNone'. -/
def aliasNoneCard : Claim7 := { stood := { row := aliasNoneRow, standIns := [], harness := (true, "2898e3e5887a5bf47c47021a3202b78165259412f150d1a049a73549785eb5f7"), looks := true }, kinds := [], alts := [], laidByText := true, laidKinds := [.data, .data, .pinned], laidTests := true, laidLooks := .later }
def AliasNoneCardSaid : Prop := Claim7.holds Tryz.pinned (.plain (OpenSpec.ofChange aliasNoneSpec)) aliasNoneCard

/-- THE TIED CARD OF 'jobshelllaw09.AliasOne'. -/
def aliasOneCard : Claim7 := { stood := { row := aliasOneRow, standIns := [], harness := (true, "2898e3e5887a5bf47c47021a3202b78165259412f150d1a049a73549785eb5f7"), looks := true }, kinds := [], alts := [], laidByText := true, laidKinds := [.data, .data, .pinned], laidTests := true, laidLooks := .later }
def AliasOneCardSaid : Prop := Claim7.holds Tryz.pinned (.plain (OpenSpec.ofChange aliasOneSpec)) aliasOneCard

/-- THE TIED CARD OF 'jobshelllaw09.AliasList'. -/
def aliasListCard : Claim7 := { stood := { row := aliasListRow, standIns := [], harness := (true, "2898e3e5887a5bf47c47021a3202b78165259412f150d1a049a73549785eb5f7"), looks := true }, kinds := [], alts := [], laidByText := true, laidKinds := [.data, .data, .pinned], laidTests := true, laidLooks := .later }
def AliasListCardSaid : Prop := Claim7.holds Tryz.pinned (.plain (OpenSpec.ofChange aliasListSpec)) aliasListCard

/-- THE TIED CARD OF 'jobshelllaw10.HeredocStrips'. -/
def heredocStripsCard : Claim7 := { stood := { row := heredocStripsRow, standIns := [], harness := (true, "2898e3e5887a5bf47c47021a3202b78165259412f150d1a049a73549785eb5f7"), looks := true }, kinds := [], alts := [], laidByText := true, laidKinds := [.data, .data, .data, .data, .data, .pinned], laidTests := true, laidLooks := .later }
def HeredocStripsCardSaid : Prop := Claim7.holds Tryz.pinned (.plain (OpenSpec.ofChange heredocStripsSpec)) heredocStripsCard

/-- THE TIED CARD OF 'jobshelllaw10.HeredocDelimiters'. -/
def heredocDelimitersCard : Claim7 := { stood := { row := heredocDelimitersRow, standIns := [], harness := (true, "2898e3e5887a5bf47c47021a3202b78165259412f150d1a049a73549785eb5f7"), looks := true }, kinds := [], alts := [], laidByText := true, laidKinds := [.data, .data, .data, .data, .data, .pinned], laidTests := true, laidLooks := .later }
def HeredocDelimitersCardSaid : Prop := Claim7.holds Tryz.pinned (.plain (OpenSpec.ofChange heredocDelimitersSpec)) heredocDelimitersCard

/-- THE TIED CARD OF 'jobshelllaw10.HeredocRounds'. -/
def heredocRoundsCard : Claim7 := { stood := { row := heredocRoundsRow, standIns := [], harness := (true, "2898e3e5887a5bf47c47021a3202b78165259412f150d1a049a73549785eb5f7"), looks := true }, kinds := [], alts := [], laidByText := true, laidKinds := [.data, .data, .data, .data, .data, .pinned], laidTests := true, laidLooks := .later }
def HeredocRoundsCardSaid : Prop := Claim7.holds Tryz.pinned (.plain (OpenSpec.ofChange heredocRoundsSpec)) heredocRoundsCard

/-- THE TIED CARD OF 'jobshelllaw10.HeredocTabs'. -/
def heredocTabsCard : Claim7 := { stood := { row := heredocTabsRow, standIns := [], harness := (true, "2898e3e5887a5bf47c47021a3202b78165259412f150d1a049a73549785eb5f7"), looks := true }, kinds := [], alts := [], laidByText := true, laidKinds := [.data, .data, .data, .data, .data, .pinned], laidTests := true, laidLooks := .later }
def HeredocTabsCardSaid : Prop := Claim7.holds Tryz.pinned (.plain (OpenSpec.ofChange heredocTabsSpec)) heredocTabsCard

/-- THE TIED CARD OF 'jobshelllaw12.SimpleAssigns'. -/
def simpleAssignsCard : Claim7 := { stood := { row := simpleAssignsRow, standIns := [], harness := (true, "2898e3e5887a5bf47c47021a3202b78165259412f150d1a049a73549785eb5f7"), looks := true }, kinds := [], alts := [], laidByText := true, laidKinds := [.data, .data, .pinned], laidTests := true, laidLooks := .later }
def SimpleAssignsCardSaid : Prop := Claim7.holds Tryz.pinned (.plain (OpenSpec.ofChange simpleAssignsSpec)) simpleAssignsCard

/-- THE SECOND FORM's CARD OF 'jobshelllaw09.AliasValids'. -/
def aliasValidsUptoCard : Claim7 := { stood := { row := aliasValidsUptoRow, standIns := [], harness := (true, "2898e3e5887a5bf47c47021a3202b78165259412f150d1a049a73549785eb5f7"), looks := true }, kinds := [], alts := [], laidByText := true, laidKinds := [.data, .data, .pinned], laidTests := true, laidLooks := .later }
def AliasValidsUptoCardSaid : Prop := Claim7.holds Tryz.pinned (.plain (OpenSpec.upto aliasValidsSpec)) aliasValidsUptoCard

/-- THE SECOND FORM's CARD OF 'jobshelllaw09.AliasSets'. -/
def aliasSetsUptoCard : Claim7 := { stood := { row := aliasSetsUptoRow, standIns := [], harness := (true, "2898e3e5887a5bf47c47021a3202b78165259412f150d1a049a73549785eb5f7"), looks := true }, kinds := [], alts := [], laidByText := true, laidKinds := [.data, .data, .pinned], laidTests := true, laidLooks := .later }
def AliasSetsUptoCardSaid : Prop := Claim7.holds Tryz.pinned (.plain (OpenSpec.upto aliasSetsSpec)) aliasSetsUptoCard

/-- THE SECOND FORM's CARD OF 'jobshelllaw09.AliasUnsets'. -/
def aliasUnsetsUptoCard : Claim7 := { stood := { row := aliasUnsetsUptoRow, standIns := [], harness := (true, "2898e3e5887a5bf47c47021a3202b78165259412f150d1a049a73549785eb5f7"), looks := true }, kinds := [], alts := [], laidByText := true, laidKinds := [.data, .data, .pinned], laidTests := true, laidLooks := .later }
def AliasUnsetsUptoCardSaid : Prop := Claim7.holds Tryz.pinned (.plain (OpenSpec.upto aliasUnsetsSpec)) aliasUnsetsUptoCard

/-- THE SECOND FORM's CARD OF 'jobshelllaw09.AliasExpands'. -/
def aliasExpandsUptoCard : Claim7 := { stood := { row := aliasExpandsUptoRow, standIns := [], harness := (true, "2898e3e5887a5bf47c47021a3202b78165259412f150d1a049a73549785eb5f7"), looks := true }, kinds := [], alts := [], laidByText := true, laidKinds := [.data, .data, .pinned], laidTests := true, laidLooks := .later }
def AliasExpandsUptoCardSaid : Prop := Claim7.holds Tryz.pinned (.plain (OpenSpec.upto aliasExpandsSpec)) aliasExpandsUptoCard

/-- THE SECOND FORM's CARD OF 'jobshelllaw09.AliasNone'. -/
def aliasNoneUptoCard : Claim7 := { stood := { row := aliasNoneUptoRow, standIns := [], harness := (true, "2898e3e5887a5bf47c47021a3202b78165259412f150d1a049a73549785eb5f7"), looks := true }, kinds := [], alts := [], laidByText := true, laidKinds := [.data, .data, .pinned], laidTests := true, laidLooks := .later }
def AliasNoneUptoCardSaid : Prop := Claim7.holds Tryz.pinned (.plain (OpenSpec.upto aliasNoneSpec)) aliasNoneUptoCard

/-- THE SECOND FORM's CARD OF 'jobshelllaw09.AliasOne'. -/
def aliasOneUptoCard : Claim7 := { stood := { row := aliasOneUptoRow, standIns := [], harness := (true, "2898e3e5887a5bf47c47021a3202b78165259412f150d1a049a73549785eb5f7"), looks := true }, kinds := [], alts := [], laidByText := true, laidKinds := [.data, .data, .pinned], laidTests := true, laidLooks := .later }
def AliasOneUptoCardSaid : Prop := Claim7.holds Tryz.pinned (.plain (OpenSpec.upto aliasOneSpec)) aliasOneUptoCard

/-- THE SECOND FORM's CARD OF 'jobshelllaw09.AliasList'. -/
def aliasListUptoCard : Claim7 := { stood := { row := aliasListUptoRow, standIns := [], harness := (true, "2898e3e5887a5bf47c47021a3202b78165259412f150d1a049a73549785eb5f7"), looks := true }, kinds := [], alts := [], laidByText := true, laidKinds := [.data, .data, .pinned], laidTests := true, laidLooks := .later }
def AliasListUptoCardSaid : Prop := Claim7.holds Tryz.pinned (.plain (OpenSpec.upto aliasListSpec)) aliasListUptoCard

/-- THE SECOND FORM's CARD OF 'jobshelllaw10.HeredocStrips'. -/
def heredocStripsUptoCard : Claim7 := { stood := { row := heredocStripsUptoRow, standIns := [], harness := (true, "2898e3e5887a5bf47c47021a3202b78165259412f150d1a049a73549785eb5f7"), looks := true }, kinds := [], alts := [], laidByText := true, laidKinds := [.data, .data, .data, .data, .data, .pinned], laidTests := true, laidLooks := .later }
def HeredocStripsUptoCardSaid : Prop := Claim7.holds Tryz.pinned (.plain (OpenSpec.upto heredocStripsSpec)) heredocStripsUptoCard

/-- THE SECOND FORM's CARD OF 'jobshelllaw10.HeredocDelimiters'. -/
def heredocDelimitersUptoCard : Claim7 := { stood := { row := heredocDelimitersUptoRow, standIns := [], harness := (true, "2898e3e5887a5bf47c47021a3202b78165259412f150d1a049a73549785eb5f7"), looks := true }, kinds := [], alts := [], laidByText := true, laidKinds := [.data, .data, .data, .data, .data, .pinned], laidTests := true, laidLooks := .later }
def HeredocDelimitersUptoCardSaid : Prop := Claim7.holds Tryz.pinned (.plain (OpenSpec.upto heredocDelimitersSpec)) heredocDelimitersUptoCard

/-- THE SECOND FORM's CARD OF 'jobshelllaw10.HeredocRounds'. -/
def heredocRoundsUptoCard : Claim7 := { stood := { row := heredocRoundsUptoRow, standIns := [], harness := (true, "2898e3e5887a5bf47c47021a3202b78165259412f150d1a049a73549785eb5f7"), looks := true }, kinds := [], alts := [], laidByText := true, laidKinds := [.data, .data, .data, .data, .data, .pinned], laidTests := true, laidLooks := .later }
def HeredocRoundsUptoCardSaid : Prop := Claim7.holds Tryz.pinned (.plain (OpenSpec.upto heredocRoundsSpec)) heredocRoundsUptoCard

/-- THE SECOND FORM's CARD OF 'jobshelllaw10.HeredocTabs'. -/
def heredocTabsUptoCard : Claim7 := { stood := { row := heredocTabsUptoRow, standIns := [], harness := (true, "2898e3e5887a5bf47c47021a3202b78165259412f150d1a049a73549785eb5f7"), looks := true }, kinds := [], alts := [], laidByText := true, laidKinds := [.data, .data, .data, .data, .data, .pinned], laidTests := true, laidLooks := .later }
def HeredocTabsUptoCardSaid : Prop := Claim7.holds Tryz.pinned (.plain (OpenSpec.upto heredocTabsSpec)) heredocTabsUptoCard

/-- THE SECOND FORM's CARD OF 'jobshelllaw12.SimpleAssigns'. -/
def simpleAssignsUptoCard : Claim7 := { stood := { row := simpleAssignsUptoRow, standIns := [], harness := (true, "2898e3e5887a5bf47c47021a3202b78165259412f150d1a049a73549785eb5f7"), looks := true }, kinds := [], alts := [], laidByText := true, laidKinds := [.data, .data, .pinned], laidTests := true, laidLooks := .later }
def SimpleAssignsUptoCardSaid : Prop := Claim7.holds Tryz.pinned (.plain (OpenSpec.upto simpleAssignsSpec)) simpleAssignsUptoCard
end Rows
end Go.Proofs.YticehbhedoploaaGreatDoor
