/-
  DERIVED. GIVEN WITH THE SEED: THE CARDS: each row of YteppndkhmbhnkaaDoorRows.lean that lists a variable, with what it lists TIED to the program's text (the seventh form; the later family's looks); each row that meets fmt, with fmt's text TOLD by the authors' own Lean function (tested against real Go, not proved from fmt's source: count such statements apart). THE CARD IS WHAT COUNTS. Prove the row's statement (the work); the ties are given (YteppndkhmbhnkaaDoorTie.lean); close each card by the builder's one call (the guide's Derived/Test/ToyasCard.lean, 'card_holds'). Laid BY PROGRAM, IN A SANDBOX (cutbox-door.mjs). By AI agents, Wed Nov 11 2026. No macro, syntax, notation, axiom, sorry.
-/
import Derived.Test.YteppndkhmbhnkaaDoorRows
import GoSem.ClaimSeven
namespace Go.Proofs.YteppndkhmbhnkaaDoor
namespace Rows

/-- THE TIED CARD OF 'jobshelllaw04.PatternCompiles'. -/
def patternCompilesCard : Claim7 := { stood := { row := patternCompilesRow, standIns := [], harness := (true, "22dc23b74715c1e48b912a9e4edeba156fbd182e590f19df3d3404e61ae92478"), looks := false }, kinds := [], alts := [], laidByText := true, laidKinds := [.data], laidTests := true, laidLooks := .later }
def PatternCompilesCardSaid : Prop := Claim7.holds Tryd.pinned (.plain (OpenSpec.ofChange patternCompilesSpec)) patternCompilesCard

/-- THE TIED CARD OF 'jobshelllaw04.PatternRuns'. -/
def patternRunsCard : Claim7 := { stood := { row := patternRunsRow, standIns := [], harness := (true, "22dc23b74715c1e48b912a9e4edeba156fbd182e590f19df3d3404e61ae92478"), looks := false }, kinds := [], alts := [], laidByText := true, laidKinds := [.data], laidTests := true, laidLooks := .later }
def PatternRunsCardSaid : Prop := Claim7.holds Tryd.pinned (.plain (OpenSpec.ofChange patternRunsSpec)) patternRunsCard

/-- THE TIED CARD OF 'jobshelllaw04.PatternMatches'. -/
def patternMatchesCard : Claim7 := { stood := { row := patternMatchesRow, standIns := [], harness := (true, "22dc23b74715c1e48b912a9e4edeba156fbd182e590f19df3d3404e61ae92478"), looks := false }, kinds := [], alts := [], laidByText := true, laidKinds := [.data], laidTests := true, laidLooks := .later }
def PatternMatchesCardSaid : Prop := Claim7.holds Tryd.pinned (.plain (OpenSpec.ofChange patternMatchesSpec)) patternMatchesCard

/-- THE TIED CARD OF 'jobshelllaw04.PatternEnds'. -/
def patternEndsCard : Claim7 := { stood := { row := patternEndsRow, standIns := [], harness := (true, "22dc23b74715c1e48b912a9e4edeba156fbd182e590f19df3d3404e61ae92478"), looks := false }, kinds := [], alts := [], laidByText := true, laidKinds := [.data], laidTests := true, laidLooks := .later }
def PatternEndsCardSaid : Prop := Claim7.holds Tryd.pinned (.plain (OpenSpec.ofChange patternEndsSpec)) patternEndsCard

/-- THE TIED CARD OF 'jobshelllaw04.PatternLiterals'. -/
def patternLiteralsCard : Claim7 := { stood := { row := patternLiteralsRow, standIns := [], harness := (true, "22dc23b74715c1e48b912a9e4edeba156fbd182e590f19df3d3404e61ae92478"), looks := false }, kinds := [], alts := [], laidByText := true, laidKinds := [.data], laidTests := true, laidLooks := .later }
def PatternLiteralsCardSaid : Prop := Claim7.holds Tryd.pinned (.plain (OpenSpec.ofChange patternLiteralsSpec)) patternLiteralsCard

/-- THE TIED CARD OF 'jobshelllaw04.PatternJoins'. -/
def patternJoinsCard : Claim7 := { stood := { row := patternJoinsRow, standIns := [], harness := (true, "22dc23b74715c1e48b912a9e4edeba156fbd182e590f19df3d3404e61ae92478"), looks := false }, kinds := [], alts := [], laidByText := true, laidKinds := [.data], laidTests := true, laidLooks := .later }
def PatternJoinsCardSaid : Prop := Claim7.holds Tryd.pinned (.plain (OpenSpec.ofChange patternJoinsSpec)) patternJoinsCard

/-- THE TIED CARD OF 'jobshelllaw04.PatternStars'. -/
def patternStarsCard : Claim7 := { stood := { row := patternStarsRow, standIns := [], harness := (true, "22dc23b74715c1e48b912a9e4edeba156fbd182e590f19df3d3404e61ae92478"), looks := false }, kinds := [], alts := [], laidByText := true, laidKinds := [.data], laidTests := true, laidLooks := .later }
def PatternStarsCardSaid : Prop := Claim7.holds Tryd.pinned (.plain (OpenSpec.ofChange patternStarsSpec)) patternStarsCard

/-- THE TIED CARD OF 'jobshelllaw07.LexerKinds'. -/
def lexerKindsCard : Claim7 := { stood := { row := lexerKindsRow, standIns := [], harness := (true, "22dc23b74715c1e48b912a9e4edeba156fbd182e590f19df3d3404e61ae92478"), looks := false }, kinds := [], alts := [], laidByText := true, laidKinds := [.data, .pinned], laidTests := true, laidLooks := .later }
def LexerKindsCardSaid : Prop := Claim7.holds Tryd.pinned (.plain (OpenSpec.ofChange lexerKindsSpec)) lexerKindsCard

/-- THE TIED CARD OF 'jobshelllaw07.LexerSkips'. -/
def lexerSkipsCard : Claim7 := { stood := { row := lexerSkipsRow, standIns := [], harness := (true, "22dc23b74715c1e48b912a9e4edeba156fbd182e590f19df3d3404e61ae92478"), looks := false }, kinds := [], alts := [], laidByText := true, laidKinds := [.data, .pinned], laidTests := true, laidLooks := .later }
def LexerSkipsCardSaid : Prop := Claim7.holds Tryd.pinned (.plain (OpenSpec.ofChange lexerSkipsSpec)) lexerSkipsCard

/-- THE TIED CARD OF 'jobshelllaw07.LexerCloses'. -/
def lexerClosesCard : Claim7 := { stood := { row := lexerClosesRow, standIns := [], harness := (true, "22dc23b74715c1e48b912a9e4edeba156fbd182e590f19df3d3404e61ae92478"), looks := false }, kinds := [], alts := [], laidByText := true, laidKinds := [.data, .pinned], laidTests := true, laidLooks := .later }
def LexerClosesCardSaid : Prop := Claim7.holds Tryd.pinned (.plain (OpenSpec.ofChange lexerClosesSpec)) lexerClosesCard

/-- THE TIED CARD OF 'jobshelllaw07.LexerNexts'. -/
def lexerNextsCard : Claim7 := { stood := { row := lexerNextsRow, standIns := [], harness := (true, "22dc23b74715c1e48b912a9e4edeba156fbd182e590f19df3d3404e61ae92478"), looks := false }, kinds := [], alts := [], laidByText := true, laidKinds := [.data, .pinned], laidTests := true, laidLooks := .later }
def LexerNextsCardSaid : Prop := Claim7.holds Tryd.pinned (.plain (OpenSpec.ofChange lexerNextsSpec)) lexerNextsCard

/-- THE TIED CARD OF 'jobshelllaw07.LexerAll'. -/
def lexerAllCard : Claim7 := { stood := { row := lexerAllRow, standIns := [], harness := (true, "22dc23b74715c1e48b912a9e4edeba156fbd182e590f19df3d3404e61ae92478"), looks := false }, kinds := [], alts := [], laidByText := true, laidKinds := [.data, .pinned], laidTests := true, laidLooks := .later }
def LexerAllCardSaid : Prop := Claim7.holds Tryd.pinned (.plain (OpenSpec.ofChange lexerAllSpec)) lexerAllCard

/-- THE SECOND FORM's CARD OF 'jobshelllaw04.PatternCompiles'. -/
def patternCompilesUptoCard : Claim7 := { stood := { row := patternCompilesUptoRow, standIns := [], harness := (true, "22dc23b74715c1e48b912a9e4edeba156fbd182e590f19df3d3404e61ae92478"), looks := false }, kinds := [], alts := [], laidByText := true, laidKinds := [.data], laidTests := true, laidLooks := .later }
def PatternCompilesUptoCardSaid : Prop := Claim7.holds Tryd.pinned (.plain (OpenSpec.upto patternCompilesSpec)) patternCompilesUptoCard

/-- THE SECOND FORM's CARD OF 'jobshelllaw04.PatternRuns'. -/
def patternRunsUptoCard : Claim7 := { stood := { row := patternRunsUptoRow, standIns := [], harness := (true, "22dc23b74715c1e48b912a9e4edeba156fbd182e590f19df3d3404e61ae92478"), looks := false }, kinds := [], alts := [], laidByText := true, laidKinds := [.data], laidTests := true, laidLooks := .later }
def PatternRunsUptoCardSaid : Prop := Claim7.holds Tryd.pinned (.plain (OpenSpec.upto patternRunsSpec)) patternRunsUptoCard

/-- THE SECOND FORM's CARD OF 'jobshelllaw04.PatternMatches'. -/
def patternMatchesUptoCard : Claim7 := { stood := { row := patternMatchesUptoRow, standIns := [], harness := (true, "22dc23b74715c1e48b912a9e4edeba156fbd182e590f19df3d3404e61ae92478"), looks := false }, kinds := [], alts := [], laidByText := true, laidKinds := [.data], laidTests := true, laidLooks := .later }
def PatternMatchesUptoCardSaid : Prop := Claim7.holds Tryd.pinned (.plain (OpenSpec.upto patternMatchesSpec)) patternMatchesUptoCard

/-- THE SECOND FORM's CARD OF 'jobshelllaw04.PatternEnds'. -/
def patternEndsUptoCard : Claim7 := { stood := { row := patternEndsUptoRow, standIns := [], harness := (true, "22dc23b74715c1e48b912a9e4edeba156fbd182e590f19df3d3404e61ae92478"), looks := false }, kinds := [], alts := [], laidByText := true, laidKinds := [.data], laidTests := true, laidLooks := .later }
def PatternEndsUptoCardSaid : Prop := Claim7.holds Tryd.pinned (.plain (OpenSpec.upto patternEndsSpec)) patternEndsUptoCard

/-- THE SECOND FORM's CARD OF 'jobshelllaw04.PatternLiterals'. -/
def patternLiteralsUptoCard : Claim7 := { stood := { row := patternLiteralsUptoRow, standIns := [], harness := (true, "22dc23b74715c1e48b912a9e4edeba156fbd182e590f19df3d3404e61ae92478"), looks := false }, kinds := [], alts := [], laidByText := true, laidKinds := [.data], laidTests := true, laidLooks := .later }
def PatternLiteralsUptoCardSaid : Prop := Claim7.holds Tryd.pinned (.plain (OpenSpec.upto patternLiteralsSpec)) patternLiteralsUptoCard

/-- THE SECOND FORM's CARD OF 'jobshelllaw04.PatternJoins'. -/
def patternJoinsUptoCard : Claim7 := { stood := { row := patternJoinsUptoRow, standIns := [], harness := (true, "22dc23b74715c1e48b912a9e4edeba156fbd182e590f19df3d3404e61ae92478"), looks := false }, kinds := [], alts := [], laidByText := true, laidKinds := [.data], laidTests := true, laidLooks := .later }
def PatternJoinsUptoCardSaid : Prop := Claim7.holds Tryd.pinned (.plain (OpenSpec.upto patternJoinsSpec)) patternJoinsUptoCard

/-- THE SECOND FORM's CARD OF 'jobshelllaw04.PatternStars'. -/
def patternStarsUptoCard : Claim7 := { stood := { row := patternStarsUptoRow, standIns := [], harness := (true, "22dc23b74715c1e48b912a9e4edeba156fbd182e590f19df3d3404e61ae92478"), looks := false }, kinds := [], alts := [], laidByText := true, laidKinds := [.data], laidTests := true, laidLooks := .later }
def PatternStarsUptoCardSaid : Prop := Claim7.holds Tryd.pinned (.plain (OpenSpec.upto patternStarsSpec)) patternStarsUptoCard

/-- THE SECOND FORM's CARD OF 'jobshelllaw07.LexerKinds'. -/
def lexerKindsUptoCard : Claim7 := { stood := { row := lexerKindsUptoRow, standIns := [], harness := (true, "22dc23b74715c1e48b912a9e4edeba156fbd182e590f19df3d3404e61ae92478"), looks := false }, kinds := [], alts := [], laidByText := true, laidKinds := [.data, .pinned], laidTests := true, laidLooks := .later }
def LexerKindsUptoCardSaid : Prop := Claim7.holds Tryd.pinned (.plain (OpenSpec.upto lexerKindsSpec)) lexerKindsUptoCard

/-- THE SECOND FORM's CARD OF 'jobshelllaw07.LexerSkips'. -/
def lexerSkipsUptoCard : Claim7 := { stood := { row := lexerSkipsUptoRow, standIns := [], harness := (true, "22dc23b74715c1e48b912a9e4edeba156fbd182e590f19df3d3404e61ae92478"), looks := false }, kinds := [], alts := [], laidByText := true, laidKinds := [.data, .pinned], laidTests := true, laidLooks := .later }
def LexerSkipsUptoCardSaid : Prop := Claim7.holds Tryd.pinned (.plain (OpenSpec.upto lexerSkipsSpec)) lexerSkipsUptoCard

/-- THE SECOND FORM's CARD OF 'jobshelllaw07.LexerCloses'. -/
def lexerClosesUptoCard : Claim7 := { stood := { row := lexerClosesUptoRow, standIns := [], harness := (true, "22dc23b74715c1e48b912a9e4edeba156fbd182e590f19df3d3404e61ae92478"), looks := false }, kinds := [], alts := [], laidByText := true, laidKinds := [.data, .pinned], laidTests := true, laidLooks := .later }
def LexerClosesUptoCardSaid : Prop := Claim7.holds Tryd.pinned (.plain (OpenSpec.upto lexerClosesSpec)) lexerClosesUptoCard

/-- THE SECOND FORM's CARD OF 'jobshelllaw07.LexerNexts'. -/
def lexerNextsUptoCard : Claim7 := { stood := { row := lexerNextsUptoRow, standIns := [], harness := (true, "22dc23b74715c1e48b912a9e4edeba156fbd182e590f19df3d3404e61ae92478"), looks := false }, kinds := [], alts := [], laidByText := true, laidKinds := [.data, .pinned], laidTests := true, laidLooks := .later }
def LexerNextsUptoCardSaid : Prop := Claim7.holds Tryd.pinned (.plain (OpenSpec.upto lexerNextsSpec)) lexerNextsUptoCard

/-- THE SECOND FORM's CARD OF 'jobshelllaw07.LexerAll'. -/
def lexerAllUptoCard : Claim7 := { stood := { row := lexerAllUptoRow, standIns := [], harness := (true, "22dc23b74715c1e48b912a9e4edeba156fbd182e590f19df3d3404e61ae92478"), looks := false }, kinds := [], alts := [], laidByText := true, laidKinds := [.data, .pinned], laidTests := true, laidLooks := .later }
def LexerAllUptoCardSaid : Prop := Claim7.holds Tryd.pinned (.plain (OpenSpec.upto lexerAllSpec)) lexerAllUptoCard
end Rows
end Go.Proofs.YteppndkhmbhnkaaDoor
