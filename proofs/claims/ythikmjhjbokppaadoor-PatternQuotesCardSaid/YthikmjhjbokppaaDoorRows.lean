/-
  NARROWER THAN 'FOR EVERY INPUT', by the rows' own cells (each row's printed sentence says how): PatternCompiles: laid · PatternRuns: laid · PatternMatches: laid · PatternEnds: laid · PatternLiterals: laid · PatternQuotes: laid · PatternJoins: laid · PatternStars: laid.
  DERIVED. THE GIVEN ROWS OF THIS SEAT. 8 by the template 'for every input the law returns true; each argument reads behind the call as it read before'; 0 by the template 'total and deterministic' (their statements: YthikmjhjbokppaaDoorTotals.lean).
  GIVEN WITH THE SEED: the statements are not yours to turn. If you find one false, say at which input.
  Laid BY PROGRAM, IN A SANDBOX (cutbox-rows.mjs): the forced cells as the released guide's own fill.sh prints them over the translation 3e61464ddda9ed2b… (all of the seat's roots in one cut). By AI agents, Wed Nov 11 2026. No macro, syntax, notation, axiom, sorry.
-/
import Derived.Test.YthikmjhjbokppaaDoorChecked
import GoSem.Claim
import GoSem.ClaimJoined
import GoSem.ClaimMapViews
import Derived.JoinedTies
import Derived.KernelRfl
namespace Go.Proofs.YthikmjhjbokppaaDoor
/- THE CELL 'sum', in the pinned program and in every row, IS THE sha256 OF THE DUMP (.gsa) THAT YthikmjhjbokppaaDoorProg.lean LOADS. Nothing in Lean hashes anything: it is a label: what it is worth is what the hold of that sum in a sandbox is worth. -/
noncomputable def Tryd.pinned : Pinned := { name := "ythikmjhjbokppaadoor", sum := "3e61464ddda9ed2b94b91396fbc5bbbb06766af3cccb177bea57741531a34bb5", checked := Tryd.checked }
namespace Rows
def none {H : Type} : Left H := { results := [], args := [] }

/- WHAT THE LISTED PACKAGE-LEVEL VARIABLES READ AS WHEN THE CALL BEGINS. Each datum BY PROGRAM (the guide's laid-datum.mjs) off the statement by which the dump's own 'gosem.cut.vars' lays the variable. In a bare row this is a premise. The card (YthikmjhjbokppaaDoorCards.lean) ties it to the program's text. -/
def laid_jobshell_pattern_classes {H : Type} : DataW H := .agg [.agg [.lit (.string [91, 58, 97, 108, 112, 104, 97, 58, 93]), .lit (.string [65, 90, 97, 122])], .agg [.lit (.string [91, 58, 100, 105, 103, 105, 116, 58, 93]), .lit (.string [48, 57])], .agg [.lit (.string [91, 58, 97, 108, 110, 117, 109, 58, 93]), .lit (.string [48, 57, 65, 90, 97, 122])], .agg [.lit (.string [91, 58, 117, 112, 112, 101, 114, 58, 93]), .lit (.string [65, 90])], .agg [.lit (.string [91, 58, 108, 111, 119, 101, 114, 58, 93]), .lit (.string [97, 122])], .agg [.lit (.string [91, 58, 115, 112, 97, 99, 101, 58, 93]), .lit (.string [9, 13, 32, 32])], .agg [.lit (.string [91, 58, 98, 108, 97, 110, 107, 58, 93]), .lit (.string [9, 9, 32, 32])], .agg [.lit (.string [91, 58, 112, 117, 110, 99, 116, 58, 93]), .lit (.string [33, 47, 58, 64, 91, 96, 123, 126])]]

/-- 'jobshelllaw04.PatternCompiles': WHATEVER THE INPUT: true; the input reads as it did. -/
def patternCompilesSpec : ChangeSpec := { name := "patternCompiles", fn := fun _ => fun
  | [d] => { results := [.lit (.bool true)], args := [d] }
  | _ => none }
def patternCompilesRow : OpenClaim := { program := "ythikmjhjbokppaadoor", sum := "3e61464ddda9ed2b94b91396fbc5bbbb06766af3cccb177bea57741531a34bb5", func := "jobshell/jobshelllaw04.PatternCompiles", spec := "patternCompiles", inPlace := ["internal/abi.NoEscape"], unfollowed := true, recurses := true, named := ["jobshell/pattern.classes"], apart := false, laid := [("jobshell/pattern.classes", laid_jobshell_pattern_classes)] }
def PatternCompilesSaid : Prop := patternCompilesRow.holds Tryd.pinned (OpenSpec.ofChange patternCompilesSpec)

/-- ITS FALSE NEIGHBOUR: 'it returns false'. Refute it at one input. -/
def patternCompilesWrong : ChangeSpec := { name := "patternCompiles", fn := fun _ => fun
  | [d] => { results := [.lit (.bool false)], args := [d] }
  | _ => none }
def PatternCompilesWrongFalsely : Prop := patternCompilesRow.holds Tryd.pinned (OpenSpec.ofChange patternCompilesWrong)

/-- 'jobshelllaw04.PatternRuns': WHATEVER THE INPUT: true; the input reads as it did. -/
def patternRunsSpec : ChangeSpec := { name := "patternRuns", fn := fun _ => fun
  | [d] => { results := [.lit (.bool true)], args := [d] }
  | _ => none }
def patternRunsRow : OpenClaim := { program := "ythikmjhjbokppaadoor", sum := "3e61464ddda9ed2b94b91396fbc5bbbb06766af3cccb177bea57741531a34bb5", func := "jobshell/jobshelllaw04.PatternRuns", spec := "patternRuns", inPlace := ["internal/abi.NoEscape"], unfollowed := true, recurses := true, named := ["jobshell/pattern.classes"], apart := false, laid := [("jobshell/pattern.classes", laid_jobshell_pattern_classes)] }
def PatternRunsSaid : Prop := patternRunsRow.holds Tryd.pinned (OpenSpec.ofChange patternRunsSpec)

/-- ITS FALSE NEIGHBOUR: 'it returns false'. Refute it at one input. -/
def patternRunsWrong : ChangeSpec := { name := "patternRuns", fn := fun _ => fun
  | [d] => { results := [.lit (.bool false)], args := [d] }
  | _ => none }
def PatternRunsWrongFalsely : Prop := patternRunsRow.holds Tryd.pinned (OpenSpec.ofChange patternRunsWrong)

/-- 'jobshelllaw04.PatternMatches': WHATEVER THE INPUT: true; the input reads as it did. -/
def patternMatchesSpec : ChangeSpec := { name := "patternMatches", fn := fun _ => fun
  | [d1, d2] => { results := [.lit (.bool true)], args := [d1, d2] }
  | _ => none }
def patternMatchesRow : OpenClaim := { program := "ythikmjhjbokppaadoor", sum := "3e61464ddda9ed2b94b91396fbc5bbbb06766af3cccb177bea57741531a34bb5", func := "jobshell/jobshelllaw04.PatternMatches", spec := "patternMatches", inPlace := ["internal/abi.NoEscape"], unfollowed := true, recurses := true, named := ["jobshell/pattern.classes"], apart := false, laid := [("jobshell/pattern.classes", laid_jobshell_pattern_classes)] }
def PatternMatchesSaid : Prop := patternMatchesRow.holds Tryd.pinned (OpenSpec.ofChange patternMatchesSpec)

/-- ITS FALSE NEIGHBOUR: 'it returns false'. Refute it at one input. -/
def patternMatchesWrong : ChangeSpec := { name := "patternMatches", fn := fun _ => fun
  | [d1, d2] => { results := [.lit (.bool false)], args := [d1, d2] }
  | _ => none }
def PatternMatchesWrongFalsely : Prop := patternMatchesRow.holds Tryd.pinned (OpenSpec.ofChange patternMatchesWrong)

/-- 'jobshelllaw04.PatternEnds': WHATEVER THE INPUT: true; the input reads as it did. -/
def patternEndsSpec : ChangeSpec := { name := "patternEnds", fn := fun _ => fun
  | [d1, d2, d3] => { results := [.lit (.bool true)], args := [d1, d2, d3] }
  | _ => none }
def patternEndsRow : OpenClaim := { program := "ythikmjhjbokppaadoor", sum := "3e61464ddda9ed2b94b91396fbc5bbbb06766af3cccb177bea57741531a34bb5", func := "jobshell/jobshelllaw04.PatternEnds", spec := "patternEnds", inPlace := ["internal/abi.NoEscape"], unfollowed := true, recurses := true, named := ["jobshell/pattern.classes"], apart := false, laid := [("jobshell/pattern.classes", laid_jobshell_pattern_classes)] }
def PatternEndsSaid : Prop := patternEndsRow.holds Tryd.pinned (OpenSpec.ofChange patternEndsSpec)

/-- ITS FALSE NEIGHBOUR: 'it returns false'. Refute it at one input. -/
def patternEndsWrong : ChangeSpec := { name := "patternEnds", fn := fun _ => fun
  | [d1, d2, d3] => { results := [.lit (.bool false)], args := [d1, d2, d3] }
  | _ => none }
def PatternEndsWrongFalsely : Prop := patternEndsRow.holds Tryd.pinned (OpenSpec.ofChange patternEndsWrong)

/-- 'jobshelllaw04.PatternLiterals': WHATEVER THE INPUT: true; the input reads as it did. -/
def patternLiteralsSpec : ChangeSpec := { name := "patternLiterals", fn := fun _ => fun
  | [d1, d2] => { results := [.lit (.bool true)], args := [d1, d2] }
  | _ => none }
def patternLiteralsRow : OpenClaim := { program := "ythikmjhjbokppaadoor", sum := "3e61464ddda9ed2b94b91396fbc5bbbb06766af3cccb177bea57741531a34bb5", func := "jobshell/jobshelllaw04.PatternLiterals", spec := "patternLiterals", inPlace := ["internal/abi.NoEscape"], unfollowed := true, recurses := true, named := ["jobshell/pattern.classes"], apart := false, laid := [("jobshell/pattern.classes", laid_jobshell_pattern_classes)] }
def PatternLiteralsSaid : Prop := patternLiteralsRow.holds Tryd.pinned (OpenSpec.ofChange patternLiteralsSpec)

/-- ITS FALSE NEIGHBOUR: 'it returns false'. Refute it at one input. -/
def patternLiteralsWrong : ChangeSpec := { name := "patternLiterals", fn := fun _ => fun
  | [d1, d2] => { results := [.lit (.bool false)], args := [d1, d2] }
  | _ => none }
def PatternLiteralsWrongFalsely : Prop := patternLiteralsRow.holds Tryd.pinned (OpenSpec.ofChange patternLiteralsWrong)

/-- 'jobshelllaw04.PatternQuotes': WHATEVER THE INPUT: true; the input reads as it did. -/
def patternQuotesSpec : ChangeSpec := { name := "patternQuotes", fn := fun _ => fun
  | [d1, d2] => { results := [.lit (.bool true)], args := [d1, d2] }
  | _ => none }
def patternQuotesRow : OpenClaim := { program := "ythikmjhjbokppaadoor", sum := "3e61464ddda9ed2b94b91396fbc5bbbb06766af3cccb177bea57741531a34bb5", func := "jobshell/jobshelllaw04.PatternQuotes", spec := "patternQuotes", inPlace := ["internal/abi.NoEscape"], unfollowed := true, recurses := true, named := ["jobshell/pattern.classes"], apart := false, laid := [("jobshell/pattern.classes", laid_jobshell_pattern_classes)] }
def PatternQuotesSaid : Prop := patternQuotesRow.holds Tryd.pinned (OpenSpec.ofChange patternQuotesSpec)

/-- ITS FALSE NEIGHBOUR: 'it returns false'. Refute it at one input. -/
def patternQuotesWrong : ChangeSpec := { name := "patternQuotes", fn := fun _ => fun
  | [d1, d2] => { results := [.lit (.bool false)], args := [d1, d2] }
  | _ => none }
def PatternQuotesWrongFalsely : Prop := patternQuotesRow.holds Tryd.pinned (OpenSpec.ofChange patternQuotesWrong)

/-- 'jobshelllaw04.PatternJoins': WHATEVER THE INPUT: true; the input reads as it did. -/
def patternJoinsSpec : ChangeSpec := { name := "patternJoins", fn := fun _ => fun
  | [d1, d2, d3] => { results := [.lit (.bool true)], args := [d1, d2, d3] }
  | _ => none }
def patternJoinsRow : OpenClaim := { program := "ythikmjhjbokppaadoor", sum := "3e61464ddda9ed2b94b91396fbc5bbbb06766af3cccb177bea57741531a34bb5", func := "jobshell/jobshelllaw04.PatternJoins", spec := "patternJoins", inPlace := ["internal/abi.NoEscape"], unfollowed := true, recurses := true, named := ["jobshell/pattern.classes"], apart := false, laid := [("jobshell/pattern.classes", laid_jobshell_pattern_classes)] }
def PatternJoinsSaid : Prop := patternJoinsRow.holds Tryd.pinned (OpenSpec.ofChange patternJoinsSpec)

/-- ITS FALSE NEIGHBOUR: 'it returns false'. Refute it at one input. -/
def patternJoinsWrong : ChangeSpec := { name := "patternJoins", fn := fun _ => fun
  | [d1, d2, d3] => { results := [.lit (.bool false)], args := [d1, d2, d3] }
  | _ => none }
def PatternJoinsWrongFalsely : Prop := patternJoinsRow.holds Tryd.pinned (OpenSpec.ofChange patternJoinsWrong)

/-- 'jobshelllaw04.PatternStars': WHATEVER THE INPUT: true; the input reads as it did. -/
def patternStarsSpec : ChangeSpec := { name := "patternStars", fn := fun _ => fun
  | [d1, d2, d3] => { results := [.lit (.bool true)], args := [d1, d2, d3] }
  | _ => none }
def patternStarsRow : OpenClaim := { program := "ythikmjhjbokppaadoor", sum := "3e61464ddda9ed2b94b91396fbc5bbbb06766af3cccb177bea57741531a34bb5", func := "jobshell/jobshelllaw04.PatternStars", spec := "patternStars", inPlace := ["internal/abi.NoEscape"], unfollowed := true, recurses := true, named := ["jobshell/pattern.classes"], apart := false, laid := [("jobshell/pattern.classes", laid_jobshell_pattern_classes)] }
def PatternStarsSaid : Prop := patternStarsRow.holds Tryd.pinned (OpenSpec.ofChange patternStarsSpec)

/-- ITS FALSE NEIGHBOUR: 'it returns false'. Refute it at one input. -/
def patternStarsWrong : ChangeSpec := { name := "patternStars", fn := fun _ => fun
  | [d1, d2, d3] => { results := [.lit (.bool false)], args := [d1, d2, d3] }
  | _ => none }
def PatternStarsWrongFalsely : Prop := patternStarsRow.holds Tryd.pinned (OpenSpec.ofChange patternStarsWrong)

/- THE SECOND FORM. 'bulk': how many values and letters a reading holds, each counted each time it is reached (what is shared counts as often as it is met; a slice's spare places count too). A statement '..UptoSaid' is the law's where the arguments, and the package variables that the reading takes, are together of bulk at most 1048576: NARROWER than '..Said'. Prove '..Said' where nothing that the law and all that it calls make is longer than what came in: it says more and counts as full. Else prove '..UptoSaid'. A law counts once. -/
mutual
def uptoBulk {H : Type} : DataW H → Nat
  | .lit (.string bytes) => bytes.length + 1
  | .lit _ => 1
  | .nil => 1
  | .ptr d => uptoBulk d + 1
  | .slice elems spare => uptoBulkAll elems + uptoBulkAll spare + 1
  | .agg parts => uptoBulkAll parts + 1
  | .iface _ d => uptoBulk d + 1
  | .map entries => uptoBulkEntries entries + 1
  | .held _ => 1
def uptoBulkAll {H : Type} : List (DataW H) → Nat
  | [] => 0
  | d :: r => uptoBulk d + uptoBulkAll r
def uptoBulkEntries {H : Type} : List (Lit × DataW H) → Nat
  | [] => 0
  | x :: r => uptoBulkEntry x + uptoBulkEntries r
def uptoBulkEntry {H : Type} : Lit × DataW H → Nat
  | (.string bytes, d) => bytes.length + uptoBulk d + 1
  | (_, d) => uptoBulk d + 1
 end
def uptoSmall : (H : Type) → List (DataW H) → Bool := fun _ ds => decide (uptoBulkAll ds ≤ 1048576)
def OpenSpec.upto (s : _root_.Go.ChangeSpec) : _root_.Go.OpenSpec := { _root_.Go.OpenSpec.ofChange s with cond := some uptoSmall }

/-- 'jobshelllaw04.PatternCompiles', WHERE WHAT IT READS IS OF BULK AT MOST 1048576: true; the input reads as it did. -/
def patternCompilesUptoRow : OpenClaim := { program := "ythikmjhjbokppaadoor", sum := "3e61464ddda9ed2b94b91396fbc5bbbb06766af3cccb177bea57741531a34bb5", func := "jobshell/jobshelllaw04.PatternCompiles", spec := "patternCompiles", inPlace := ["internal/abi.NoEscape"], unfollowed := true, recurses := true, named := ["jobshell/pattern.classes"], apart := false, laid := [("jobshell/pattern.classes", laid_jobshell_pattern_classes)], narrowed := true }
def PatternCompilesUptoSaid : Prop := patternCompilesUptoRow.holds Tryd.pinned (OpenSpec.upto patternCompilesSpec)

/-- 'jobshelllaw04.PatternRuns', WHERE WHAT IT READS IS OF BULK AT MOST 1048576: true; the input reads as it did. -/
def patternRunsUptoRow : OpenClaim := { program := "ythikmjhjbokppaadoor", sum := "3e61464ddda9ed2b94b91396fbc5bbbb06766af3cccb177bea57741531a34bb5", func := "jobshell/jobshelllaw04.PatternRuns", spec := "patternRuns", inPlace := ["internal/abi.NoEscape"], unfollowed := true, recurses := true, named := ["jobshell/pattern.classes"], apart := false, laid := [("jobshell/pattern.classes", laid_jobshell_pattern_classes)], narrowed := true }
def PatternRunsUptoSaid : Prop := patternRunsUptoRow.holds Tryd.pinned (OpenSpec.upto patternRunsSpec)

/-- 'jobshelllaw04.PatternMatches', WHERE WHAT IT READS IS OF BULK AT MOST 1048576: true; the input reads as it did. -/
def patternMatchesUptoRow : OpenClaim := { program := "ythikmjhjbokppaadoor", sum := "3e61464ddda9ed2b94b91396fbc5bbbb06766af3cccb177bea57741531a34bb5", func := "jobshell/jobshelllaw04.PatternMatches", spec := "patternMatches", inPlace := ["internal/abi.NoEscape"], unfollowed := true, recurses := true, named := ["jobshell/pattern.classes"], apart := false, laid := [("jobshell/pattern.classes", laid_jobshell_pattern_classes)], narrowed := true }
def PatternMatchesUptoSaid : Prop := patternMatchesUptoRow.holds Tryd.pinned (OpenSpec.upto patternMatchesSpec)

/-- 'jobshelllaw04.PatternEnds', WHERE WHAT IT READS IS OF BULK AT MOST 1048576: true; the input reads as it did. -/
def patternEndsUptoRow : OpenClaim := { program := "ythikmjhjbokppaadoor", sum := "3e61464ddda9ed2b94b91396fbc5bbbb06766af3cccb177bea57741531a34bb5", func := "jobshell/jobshelllaw04.PatternEnds", spec := "patternEnds", inPlace := ["internal/abi.NoEscape"], unfollowed := true, recurses := true, named := ["jobshell/pattern.classes"], apart := false, laid := [("jobshell/pattern.classes", laid_jobshell_pattern_classes)], narrowed := true }
def PatternEndsUptoSaid : Prop := patternEndsUptoRow.holds Tryd.pinned (OpenSpec.upto patternEndsSpec)

/-- 'jobshelllaw04.PatternLiterals', WHERE WHAT IT READS IS OF BULK AT MOST 1048576: true; the input reads as it did. -/
def patternLiteralsUptoRow : OpenClaim := { program := "ythikmjhjbokppaadoor", sum := "3e61464ddda9ed2b94b91396fbc5bbbb06766af3cccb177bea57741531a34bb5", func := "jobshell/jobshelllaw04.PatternLiterals", spec := "patternLiterals", inPlace := ["internal/abi.NoEscape"], unfollowed := true, recurses := true, named := ["jobshell/pattern.classes"], apart := false, laid := [("jobshell/pattern.classes", laid_jobshell_pattern_classes)], narrowed := true }
def PatternLiteralsUptoSaid : Prop := patternLiteralsUptoRow.holds Tryd.pinned (OpenSpec.upto patternLiteralsSpec)

/-- 'jobshelllaw04.PatternQuotes', WHERE WHAT IT READS IS OF BULK AT MOST 1048576: true; the input reads as it did. -/
def patternQuotesUptoRow : OpenClaim := { program := "ythikmjhjbokppaadoor", sum := "3e61464ddda9ed2b94b91396fbc5bbbb06766af3cccb177bea57741531a34bb5", func := "jobshell/jobshelllaw04.PatternQuotes", spec := "patternQuotes", inPlace := ["internal/abi.NoEscape"], unfollowed := true, recurses := true, named := ["jobshell/pattern.classes"], apart := false, laid := [("jobshell/pattern.classes", laid_jobshell_pattern_classes)], narrowed := true }
def PatternQuotesUptoSaid : Prop := patternQuotesUptoRow.holds Tryd.pinned (OpenSpec.upto patternQuotesSpec)

/-- 'jobshelllaw04.PatternJoins', WHERE WHAT IT READS IS OF BULK AT MOST 1048576: true; the input reads as it did. -/
def patternJoinsUptoRow : OpenClaim := { program := "ythikmjhjbokppaadoor", sum := "3e61464ddda9ed2b94b91396fbc5bbbb06766af3cccb177bea57741531a34bb5", func := "jobshell/jobshelllaw04.PatternJoins", spec := "patternJoins", inPlace := ["internal/abi.NoEscape"], unfollowed := true, recurses := true, named := ["jobshell/pattern.classes"], apart := false, laid := [("jobshell/pattern.classes", laid_jobshell_pattern_classes)], narrowed := true }
def PatternJoinsUptoSaid : Prop := patternJoinsUptoRow.holds Tryd.pinned (OpenSpec.upto patternJoinsSpec)

/-- 'jobshelllaw04.PatternStars', WHERE WHAT IT READS IS OF BULK AT MOST 1048576: true; the input reads as it did. -/
def patternStarsUptoRow : OpenClaim := { program := "ythikmjhjbokppaadoor", sum := "3e61464ddda9ed2b94b91396fbc5bbbb06766af3cccb177bea57741531a34bb5", func := "jobshell/jobshelllaw04.PatternStars", spec := "patternStars", inPlace := ["internal/abi.NoEscape"], unfollowed := true, recurses := true, named := ["jobshell/pattern.classes"], apart := false, laid := [("jobshell/pattern.classes", laid_jobshell_pattern_classes)], narrowed := true }
def PatternStarsUptoSaid : Prop := patternStarsUptoRow.holds Tryd.pinned (OpenSpec.upto patternStarsSpec)

end Rows
end Go.Proofs.YthikmjhjbokppaaDoor
