/-
  DERIVED. GIVEN WITH THE SEED: THE CARDS: each row of YtlenmkcafoiefabGreatDoorRows.lean that lists a variable, with what it lists TIED to the program's text (the seventh form; the later family's looks); each row that meets fmt, with fmt's text TOLD by the authors' own Lean function (tested against real Go, not proved from fmt's source: count such statements apart). THE CARD IS WHAT COUNTS. Prove the row's statement (the work); the ties are given (YtlenmkcafoiefabGreatDoorTie.lean); close each card by the builder's one call (the guide's Derived/Test/ToyasCard.lean, 'card_holds'). Laid BY PROGRAM, IN A SANDBOX (cutbox-door.mjs). By AI agents, Wed Nov 11 2026. No macro, syntax, notation, axiom, sorry.
-/
import Derived.Test.YtlenmkcafoiefabGreatDoorRows
import GoSem.ClaimSeven
namespace Go.Proofs.YtlenmkcafoiefabGreatDoor
namespace Rows

/-- THE TIED CARD OF 'jobshelllaw09.AliasNone'. -/
def aliasNoneCard : Claim7 := { stood := { row := aliasNoneRow, standIns := [], harness := (true, "159c61b6e411d8429e6b42e15951c4e2cb88c47d148d83e8f2435f63ffc19540"), looks := true }, kinds := [], alts := [], laidByText := true, laidKinds := [.data, .data, .pinned], laidTests := true, laidLooks := .later }
def AliasNoneCardSaid : Prop := Claim7.holds Tryz.pinned (.plain (OpenSpec.ofChange aliasNoneSpec)) aliasNoneCard

/-- THE TIED CARD OF 'jobshelllaw09.AliasOne'. -/
def aliasOneCard : Claim7 := { stood := { row := aliasOneRow, standIns := [], harness := (true, "159c61b6e411d8429e6b42e15951c4e2cb88c47d148d83e8f2435f63ffc19540"), looks := true }, kinds := [], alts := [], laidByText := true, laidKinds := [.data, .data, .pinned], laidTests := true, laidLooks := .later }
def AliasOneCardSaid : Prop := Claim7.holds Tryz.pinned (.plain (OpenSpec.ofChange aliasOneSpec)) aliasOneCard

/-- THE TIED CARD OF 'jobshelllaw09.AliasList'. -/
def aliasListCard : Claim7 := { stood := { row := aliasListRow, standIns := [], harness := (true, "159c61b6e411d8429e6b42e15951c4e2cb88c47d148d83e8f2435f63ffc19540"), looks := true }, kinds := [], alts := [], laidByText := true, laidKinds := [.data, .data, .pinned], laidTests := true, laidLooks := .later }
def AliasListCardSaid : Prop := Claim7.holds Tryz.pinned (.plain (OpenSpec.ofChange aliasListSpec)) aliasListCard

/-- THE TIED CARD OF 'jobshelllaw10.HeredocStrips'. -/
def heredocStripsCard : Claim7 := { stood := { row := heredocStripsRow, standIns := [], harness := (true, "159c61b6e411d8429e6b42e15951c4e2cb88c47d148d83e8f2435f63ffc19540"), looks := true }, kinds := [], alts := [], laidByText := true, laidKinds := [.data, .data, .data, .data, .data, .pinned], laidTests := true, laidLooks := .later }
def HeredocStripsCardSaid : Prop := Claim7.holds Tryz.pinned (.plain (OpenSpec.ofChange heredocStripsSpec)) heredocStripsCard

/-- THE TIED CARD OF 'jobshelllaw10.HeredocDelimiters'. -/
def heredocDelimitersCard : Claim7 := { stood := { row := heredocDelimitersRow, standIns := [], harness := (true, "159c61b6e411d8429e6b42e15951c4e2cb88c47d148d83e8f2435f63ffc19540"), looks := true }, kinds := [], alts := [], laidByText := true, laidKinds := [.data, .data, .data, .data, .data, .pinned], laidTests := true, laidLooks := .later }
def HeredocDelimitersCardSaid : Prop := Claim7.holds Tryz.pinned (.plain (OpenSpec.ofChange heredocDelimitersSpec)) heredocDelimitersCard

/-- THE TIED CARD OF 'jobshelllaw10.HeredocRounds'. -/
def heredocRoundsCard : Claim7 := { stood := { row := heredocRoundsRow, standIns := [], harness := (true, "159c61b6e411d8429e6b42e15951c4e2cb88c47d148d83e8f2435f63ffc19540"), looks := true }, kinds := [], alts := [], laidByText := true, laidKinds := [.data, .data, .data, .data, .data, .pinned], laidTests := true, laidLooks := .later }
def HeredocRoundsCardSaid : Prop := Claim7.holds Tryz.pinned (.plain (OpenSpec.ofChange heredocRoundsSpec)) heredocRoundsCard

/-- THE TIED CARD OF 'jobshelllaw10.HeredocTabs'. -/
def heredocTabsCard : Claim7 := { stood := { row := heredocTabsRow, standIns := [], harness := (true, "159c61b6e411d8429e6b42e15951c4e2cb88c47d148d83e8f2435f63ffc19540"), looks := true }, kinds := [], alts := [], laidByText := true, laidKinds := [.data, .data, .data, .data, .data, .pinned], laidTests := true, laidLooks := .later }
def HeredocTabsCardSaid : Prop := Claim7.holds Tryz.pinned (.plain (OpenSpec.ofChange heredocTabsSpec)) heredocTabsCard

/-- THE SECOND FORM's CARD OF 'jobshelllaw09.AliasNone'. -/
def aliasNoneUptoCard : Claim7 := { stood := { row := aliasNoneUptoRow, standIns := [], harness := (true, "159c61b6e411d8429e6b42e15951c4e2cb88c47d148d83e8f2435f63ffc19540"), looks := true }, kinds := [], alts := [], laidByText := true, laidKinds := [.data, .data, .pinned], laidTests := true, laidLooks := .later }
def AliasNoneUptoCardSaid : Prop := Claim7.holds Tryz.pinned (.plain (OpenSpec.upto aliasNoneSpec)) aliasNoneUptoCard

/-- THE SECOND FORM's CARD OF 'jobshelllaw09.AliasOne'. -/
def aliasOneUptoCard : Claim7 := { stood := { row := aliasOneUptoRow, standIns := [], harness := (true, "159c61b6e411d8429e6b42e15951c4e2cb88c47d148d83e8f2435f63ffc19540"), looks := true }, kinds := [], alts := [], laidByText := true, laidKinds := [.data, .data, .pinned], laidTests := true, laidLooks := .later }
def AliasOneUptoCardSaid : Prop := Claim7.holds Tryz.pinned (.plain (OpenSpec.upto aliasOneSpec)) aliasOneUptoCard

/-- THE SECOND FORM's CARD OF 'jobshelllaw09.AliasList'. -/
def aliasListUptoCard : Claim7 := { stood := { row := aliasListUptoRow, standIns := [], harness := (true, "159c61b6e411d8429e6b42e15951c4e2cb88c47d148d83e8f2435f63ffc19540"), looks := true }, kinds := [], alts := [], laidByText := true, laidKinds := [.data, .data, .pinned], laidTests := true, laidLooks := .later }
def AliasListUptoCardSaid : Prop := Claim7.holds Tryz.pinned (.plain (OpenSpec.upto aliasListSpec)) aliasListUptoCard

/-- THE SECOND FORM's CARD OF 'jobshelllaw10.HeredocStrips'. -/
def heredocStripsUptoCard : Claim7 := { stood := { row := heredocStripsUptoRow, standIns := [], harness := (true, "159c61b6e411d8429e6b42e15951c4e2cb88c47d148d83e8f2435f63ffc19540"), looks := true }, kinds := [], alts := [], laidByText := true, laidKinds := [.data, .data, .data, .data, .data, .pinned], laidTests := true, laidLooks := .later }
def HeredocStripsUptoCardSaid : Prop := Claim7.holds Tryz.pinned (.plain (OpenSpec.upto heredocStripsSpec)) heredocStripsUptoCard

/-- THE SECOND FORM's CARD OF 'jobshelllaw10.HeredocDelimiters'. -/
def heredocDelimitersUptoCard : Claim7 := { stood := { row := heredocDelimitersUptoRow, standIns := [], harness := (true, "159c61b6e411d8429e6b42e15951c4e2cb88c47d148d83e8f2435f63ffc19540"), looks := true }, kinds := [], alts := [], laidByText := true, laidKinds := [.data, .data, .data, .data, .data, .pinned], laidTests := true, laidLooks := .later }
def HeredocDelimitersUptoCardSaid : Prop := Claim7.holds Tryz.pinned (.plain (OpenSpec.upto heredocDelimitersSpec)) heredocDelimitersUptoCard

/-- THE SECOND FORM's CARD OF 'jobshelllaw10.HeredocRounds'. -/
def heredocRoundsUptoCard : Claim7 := { stood := { row := heredocRoundsUptoRow, standIns := [], harness := (true, "159c61b6e411d8429e6b42e15951c4e2cb88c47d148d83e8f2435f63ffc19540"), looks := true }, kinds := [], alts := [], laidByText := true, laidKinds := [.data, .data, .data, .data, .data, .pinned], laidTests := true, laidLooks := .later }
def HeredocRoundsUptoCardSaid : Prop := Claim7.holds Tryz.pinned (.plain (OpenSpec.upto heredocRoundsSpec)) heredocRoundsUptoCard

/-- THE SECOND FORM's CARD OF 'jobshelllaw10.HeredocTabs'. -/
def heredocTabsUptoCard : Claim7 := { stood := { row := heredocTabsUptoRow, standIns := [], harness := (true, "159c61b6e411d8429e6b42e15951c4e2cb88c47d148d83e8f2435f63ffc19540"), looks := true }, kinds := [], alts := [], laidByText := true, laidKinds := [.data, .data, .data, .data, .data, .pinned], laidTests := true, laidLooks := .later }
def HeredocTabsUptoCardSaid : Prop := Claim7.holds Tryz.pinned (.plain (OpenSpec.upto heredocTabsSpec)) heredocTabsUptoCard
end Rows
end Go.Proofs.YtlenmkcafoiefabGreatDoor
