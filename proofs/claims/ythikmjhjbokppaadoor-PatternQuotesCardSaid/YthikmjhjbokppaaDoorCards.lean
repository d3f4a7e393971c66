/-
  DERIVED. GIVEN WITH THE SEED: THE CARDS: each row of YthikmjhjbokppaaDoorRows.lean that lists a variable, with what it lists TIED to the program's text (the seventh form; the later family's looks); each row that meets fmt, with fmt's text TOLD by the authors' own Lean function (tested against real Go, not proved from fmt's source: count such statements apart). THE CARD IS WHAT COUNTS. Prove the row's statement (the work); the ties are given (YthikmjhjbokppaaDoorTie.lean); close each card by the builder's one call (the guide's Derived/Test/ToyasCard.lean, 'card_holds'). Laid BY PROGRAM, IN A SANDBOX (cutbox-door.mjs). By AI agents, Wed Nov 11 2026. No macro, syntax, notation, axiom, sorry.
-/
import Derived.Test.YthikmjhjbokppaaDoorRows
import GoSem.ClaimSeven
namespace Go.Proofs.YthikmjhjbokppaaDoor
namespace Rows

/-- THE TIED CARD OF 'jobshelllaw04.PatternCompiles'. -/
def patternCompilesCard : Claim7 := { stood := { row := patternCompilesRow, standIns := [], harness := (true, "ffcba53979f9d08a135a0d6cfc58a51c5c275073d675b68f9ca8b510757df335"), looks := false }, kinds := [], alts := [], laidByText := true, laidKinds := [.data], laidTests := true, laidLooks := .later }
def PatternCompilesCardSaid : Prop := Claim7.holds Tryd.pinned (.plain (OpenSpec.ofChange patternCompilesSpec)) patternCompilesCard

/-- THE TIED CARD OF 'jobshelllaw04.PatternRuns'. -/
def patternRunsCard : Claim7 := { stood := { row := patternRunsRow, standIns := [], harness := (true, "ffcba53979f9d08a135a0d6cfc58a51c5c275073d675b68f9ca8b510757df335"), looks := false }, kinds := [], alts := [], laidByText := true, laidKinds := [.data], laidTests := true, laidLooks := .later }
def PatternRunsCardSaid : Prop := Claim7.holds Tryd.pinned (.plain (OpenSpec.ofChange patternRunsSpec)) patternRunsCard

/-- THE TIED CARD OF 'jobshelllaw04.PatternMatches'. -/
def patternMatchesCard : Claim7 := { stood := { row := patternMatchesRow, standIns := [], harness := (true, "ffcba53979f9d08a135a0d6cfc58a51c5c275073d675b68f9ca8b510757df335"), looks := false }, kinds := [], alts := [], laidByText := true, laidKinds := [.data], laidTests := true, laidLooks := .later }
def PatternMatchesCardSaid : Prop := Claim7.holds Tryd.pinned (.plain (OpenSpec.ofChange patternMatchesSpec)) patternMatchesCard

/-- THE TIED CARD OF 'jobshelllaw04.PatternEnds'. -/
def patternEndsCard : Claim7 := { stood := { row := patternEndsRow, standIns := [], harness := (true, "ffcba53979f9d08a135a0d6cfc58a51c5c275073d675b68f9ca8b510757df335"), looks := false }, kinds := [], alts := [], laidByText := true, laidKinds := [.data], laidTests := true, laidLooks := .later }
def PatternEndsCardSaid : Prop := Claim7.holds Tryd.pinned (.plain (OpenSpec.ofChange patternEndsSpec)) patternEndsCard

/-- THE TIED CARD OF 'jobshelllaw04.PatternLiterals'. -/
def patternLiteralsCard : Claim7 := { stood := { row := patternLiteralsRow, standIns := [], harness := (true, "ffcba53979f9d08a135a0d6cfc58a51c5c275073d675b68f9ca8b510757df335"), looks := false }, kinds := [], alts := [], laidByText := true, laidKinds := [.data], laidTests := true, laidLooks := .later }
def PatternLiteralsCardSaid : Prop := Claim7.holds Tryd.pinned (.plain (OpenSpec.ofChange patternLiteralsSpec)) patternLiteralsCard

/-- THE TIED CARD OF 'jobshelllaw04.PatternQuotes'. -/
def patternQuotesCard : Claim7 := { stood := { row := patternQuotesRow, standIns := [], harness := (true, "ffcba53979f9d08a135a0d6cfc58a51c5c275073d675b68f9ca8b510757df335"), looks := false }, kinds := [], alts := [], laidByText := true, laidKinds := [.data], laidTests := true, laidLooks := .later }
def PatternQuotesCardSaid : Prop := Claim7.holds Tryd.pinned (.plain (OpenSpec.ofChange patternQuotesSpec)) patternQuotesCard

/-- THE TIED CARD OF 'jobshelllaw04.PatternJoins'. -/
def patternJoinsCard : Claim7 := { stood := { row := patternJoinsRow, standIns := [], harness := (true, "ffcba53979f9d08a135a0d6cfc58a51c5c275073d675b68f9ca8b510757df335"), looks := false }, kinds := [], alts := [], laidByText := true, laidKinds := [.data], laidTests := true, laidLooks := .later }
def PatternJoinsCardSaid : Prop := Claim7.holds Tryd.pinned (.plain (OpenSpec.ofChange patternJoinsSpec)) patternJoinsCard

/-- THE TIED CARD OF 'jobshelllaw04.PatternStars'. -/
def patternStarsCard : Claim7 := { stood := { row := patternStarsRow, standIns := [], harness := (true, "ffcba53979f9d08a135a0d6cfc58a51c5c275073d675b68f9ca8b510757df335"), looks := false }, kinds := [], alts := [], laidByText := true, laidKinds := [.data], laidTests := true, laidLooks := .later }
def PatternStarsCardSaid : Prop := Claim7.holds Tryd.pinned (.plain (OpenSpec.ofChange patternStarsSpec)) patternStarsCard

/-- THE SECOND FORM's CARD OF 'jobshelllaw04.PatternCompiles'. -/
def patternCompilesUptoCard : Claim7 := { stood := { row := patternCompilesUptoRow, standIns := [], harness := (true, "ffcba53979f9d08a135a0d6cfc58a51c5c275073d675b68f9ca8b510757df335"), looks := false }, kinds := [], alts := [], laidByText := true, laidKinds := [.data], laidTests := true, laidLooks := .later }
def PatternCompilesUptoCardSaid : Prop := Claim7.holds Tryd.pinned (.plain (OpenSpec.upto patternCompilesSpec)) patternCompilesUptoCard

/-- THE SECOND FORM's CARD OF 'jobshelllaw04.PatternRuns'. -/
def patternRunsUptoCard : Claim7 := { stood := { row := patternRunsUptoRow, standIns := [], harness := (true, "ffcba53979f9d08a135a0d6cfc58a51c5c275073d675b68f9ca8b510757df335"), looks := false }, kinds := [], alts := [], laidByText := true, laidKinds := [.data], laidTests := true, laidLooks := .later }
def PatternRunsUptoCardSaid : Prop := Claim7.holds Tryd.pinned (.plain (OpenSpec.upto patternRunsSpec)) patternRunsUptoCard

/-- THE SECOND FORM's CARD OF 'jobshelllaw04.PatternMatches'. -/
def patternMatchesUptoCard : Claim7 := { stood := { row := patternMatchesUptoRow, standIns := [], harness := (true, "ffcba53979f9d08a135a0d6cfc58a51c5c275073d675b68f9ca8b510757df335"), looks := false }, kinds := [], alts := [], laidByText := true, laidKinds := [.data], laidTests := true, laidLooks := .later }
def PatternMatchesUptoCardSaid : Prop := Claim7.holds Tryd.pinned (.plain (OpenSpec.upto patternMatchesSpec)) patternMatchesUptoCard

/-- THE SECOND FORM's CARD OF 'jobshelllaw04.PatternEnds'. -/
def patternEndsUptoCard : Claim7 := { stood := { row := patternEndsUptoRow, standIns := [], harness := (true, "ffcba53979f9d08a135a0d6cfc58a51c5c275073d675b68f9ca8b510757df335"), looks := false }, kinds := [], alts := [], laidByText := true, laidKinds := [.data], laidTests := true, laidLooks := .later }
def PatternEndsUptoCardSaid : Prop := Claim7.holds Tryd.pinned (.plain (OpenSpec.upto patternEndsSpec)) patternEndsUptoCard

/-- THE SECOND FORM's CARD OF 'jobshelllaw04.PatternLiterals'. -/
def patternLiteralsUptoCard : Claim7 := { stood := { row := patternLiteralsUptoRow, standIns := [], harness := (true, "ffcba53979f9d08a135a0d6cfc58a51c5c275073d675b68f9ca8b510757df335"), looks := false }, kinds := [], alts := [], laidByText := true, laidKinds := [.data], laidTests := true, laidLooks := .later }
def PatternLiteralsUptoCardSaid : Prop := Claim7.holds Tryd.pinned (.plain (OpenSpec.upto patternLiteralsSpec)) patternLiteralsUptoCard

/-- THE SECOND FORM's CARD OF 'jobshelllaw04.PatternQuotes'. -/
def patternQuotesUptoCard : Claim7 := { stood := { row := patternQuotesUptoRow, standIns := [], harness := (true, "ffcba53979f9d08a135a0d6cfc58a51c5c275073d675b68f9ca8b510757df335"), looks := false }, kinds := [], alts := [], laidByText := true, laidKinds := [.data], laidTests := true, laidLooks := .later }
def PatternQuotesUptoCardSaid : Prop := Claim7.holds Tryd.pinned (.plain (OpenSpec.upto patternQuotesSpec)) patternQuotesUptoCard

/-- THE SECOND FORM's CARD OF 'jobshelllaw04.PatternJoins'. -/
def patternJoinsUptoCard : Claim7 := { stood := { row := patternJoinsUptoRow, standIns := [], harness := (true, "ffcba53979f9d08a135a0d6cfc58a51c5c275073d675b68f9ca8b510757df335"), looks := false }, kinds := [], alts := [], laidByText := true, laidKinds := [.data], laidTests := true, laidLooks := .later }
def PatternJoinsUptoCardSaid : Prop := Claim7.holds Tryd.pinned (.plain (OpenSpec.upto patternJoinsSpec)) patternJoinsUptoCard

/-- THE SECOND FORM's CARD OF 'jobshelllaw04.PatternStars'. -/
def patternStarsUptoCard : Claim7 := { stood := { row := patternStarsUptoRow, standIns := [], harness := (true, "ffcba53979f9d08a135a0d6cfc58a51c5c275073d675b68f9ca8b510757df335"), looks := false }, kinds := [], alts := [], laidByText := true, laidKinds := [.data], laidTests := true, laidLooks := .later }
def PatternStarsUptoCardSaid : Prop := Claim7.holds Tryd.pinned (.plain (OpenSpec.upto patternStarsSpec)) patternStarsUptoCard
end Rows
end Go.Proofs.YthikmjhjbokppaaDoor
