/-
  NARROWER THAN 'FOR EVERY INPUT', by the rows' own cells (each row's printed sentence says how): PatternCompiles: laid · PatternRuns: laid · PatternMatches: laid · PatternEnds: laid · PatternLiterals: laid · PatternJoins: laid · PatternStars: laid · LexerKinds: laid · LexerSkips: laid · LexerCloses: laid · LexerNexts: laid · LexerAll: laid.
  DERIVED. THE GIVEN ROWS OF THIS SEAT. 12 by the template 'for every input the law returns true; each argument reads behind the call as it read before'; 0 by the template 'total and deterministic' (their statements: YteppndkhmbhnkaaDoorTotals.lean).
  GIVEN WITH THE SEED: the statements are not yours to turn. If you find one false, say at which input.
  Laid BY PROGRAM, IN A SANDBOX (cutbox-rows.mjs): the forced cells as the released guide's own fill.sh prints them over the translation cede1ad19aa6c8a9… (all of the seat's roots in one cut). By AI agents, Wed Nov 11 2026. No macro, syntax, notation, axiom, sorry.
-/
import Derived.Test.YteppndkhmbhnkaaDoorChecked
import GoSem.PinnedTables
import GoSem.Claim
import GoSem.ClaimJoined
import GoSem.ClaimMapViews
import Derived.JoinedTies
import Derived.KernelRfl
namespace Go.Proofs.YteppndkhmbhnkaaDoor
/- THE CELL 'sum', in the pinned program and in every row, IS THE sha256 OF THE DUMP (.gsa) THAT YteppndkhmbhnkaaDoorProg.lean LOADS. Nothing in Lean hashes anything: it is a label: what it is worth is what the hold of that sum in a sandbox is worth. -/
noncomputable def Tryd.pinned : Pinned := { name := "yteppndkhmbhnkaadoor", sum := "cede1ad19aa6c8a97aefcd6827931fd472c0d8b2e23035c95a89a8119deaab84", checked := Tryd.checked }
namespace Rows
def none {H : Type} : Left H := { results := [], args := [] }

/- WHAT THE LISTED PACKAGE-LEVEL VARIABLES READ AS WHEN THE CALL BEGINS. Each datum BY PROGRAM (the guide's laid-datum.mjs) off the statement by which the dump's own 'gosem.cut.vars' lays the variable. In a bare row this is a premise. The card (YteppndkhmbhnkaaDoorCards.lean) ties it to the program's text. -/
def laid_jobshell_pattern_classes {H : Type} : DataW H := .agg [.agg [.lit (.string [91, 58, 97, 108, 112, 104, 97, 58, 93]), .lit (.string [65, 90, 97, 122])], .agg [.lit (.string [91, 58, 100, 105, 103, 105, 116, 58, 93]), .lit (.string [48, 57])], .agg [.lit (.string [91, 58, 97, 108, 110, 117, 109, 58, 93]), .lit (.string [48, 57, 65, 90, 97, 122])], .agg [.lit (.string [91, 58, 117, 112, 112, 101, 114, 58, 93]), .lit (.string [65, 90])], .agg [.lit (.string [91, 58, 108, 111, 119, 101, 114, 58, 93]), .lit (.string [97, 122])], .agg [.lit (.string [91, 58, 115, 112, 97, 99, 101, 58, 93]), .lit (.string [9, 13, 32, 32])], .agg [.lit (.string [91, 58, 98, 108, 97, 110, 107, 58, 93]), .lit (.string [9, 9, 32, 32])], .agg [.lit (.string [91, 58, 112, 117, 110, 99, 116, 58, 93]), .lit (.string [33, 47, 58, 64, 91, 96, 123, 126])]]
def laid_unicode_utf8_acceptRanges {H : Type} : DataW H := .agg [.agg [.lit (.int .u8 128), .lit (.int .u8 191)], .agg [.lit (.int .u8 160), .lit (.int .u8 191)], .agg [.lit (.int .u8 128), .lit (.int .u8 159)], .agg [.lit (.int .u8 144), .lit (.int .u8 191)], .agg [.lit (.int .u8 128), .lit (.int .u8 143)], .agg [.lit (.int .u8 0), .lit (.int .u8 0)], .agg [.lit (.int .u8 0), .lit (.int .u8 0)], .agg [.lit (.int .u8 0), .lit (.int .u8 0)], .agg [.lit (.int .u8 0), .lit (.int .u8 0)], .agg [.lit (.int .u8 0), .lit (.int .u8 0)], .agg [.lit (.int .u8 0), .lit (.int .u8 0)], .agg [.lit (.int .u8 0), .lit (.int .u8 0)], .agg [.lit (.int .u8 0), .lit (.int .u8 0)], .agg [.lit (.int .u8 0), .lit (.int .u8 0)], .agg [.lit (.int .u8 0), .lit (.int .u8 0)], .agg [.lit (.int .u8 0), .lit (.int .u8 0)]]
/-- One of Go's own tables, pinned by name: the form's constant. -/
def laid_unicode_utf8_first : DataW Unit := Go.Pinned.utf8First

/-- 'jobshelllaw04.PatternCompiles': WHATEVER THE INPUT: true; the input reads as it did. -/
def patternCompilesSpec : ChangeSpec := { name := "patternCompiles", fn := fun _ => fun
  | [d] => { results := [.lit (.bool true)], args := [d] }
  | _ => none }
def patternCompilesRow : OpenClaim := { program := "yteppndkhmbhnkaadoor", sum := "cede1ad19aa6c8a97aefcd6827931fd472c0d8b2e23035c95a89a8119deaab84", func := "jobshell/jobshelllaw04.PatternCompiles", spec := "patternCompiles", inPlace := ["internal/abi.NoEscape"], unfollowed := true, recurses := true, named := ["jobshell/pattern.classes"], apart := false, laid := [("jobshell/pattern.classes", laid_jobshell_pattern_classes)] }
def PatternCompilesSaid : Prop := patternCompilesRow.holds Tryd.pinned (OpenSpec.ofChange patternCompilesSpec)

/-- ITS FALSE NEIGHBOUR: 'it returns false'. Refute it at one input. -/
def patternCompilesWrong : ChangeSpec := { name := "patternCompiles", fn := fun _ => fun
  | [d] => { results := [.lit (.bool false)], args := [d] }
  | _ => none }
def PatternCompilesWrongFalsely : Prop := patternCompilesRow.holds Tryd.pinned (OpenSpec.ofChange patternCompilesWrong)

/-- 'jobshelllaw04.PatternRuns': WHATEVER THE INPUT: true; the input reads as it did. -/
def patternRunsSpec : ChangeSpec := { name := "patternRuns", fn := fun _ => fun
  | [d] => { results := [.lit (.bool true)], args := [d] }
  | _ => none }
def patternRunsRow : OpenClaim := { program := "yteppndkhmbhnkaadoor", sum := "cede1ad19aa6c8a97aefcd6827931fd472c0d8b2e23035c95a89a8119deaab84", func := "jobshell/jobshelllaw04.PatternRuns", spec := "patternRuns", inPlace := ["internal/abi.NoEscape"], unfollowed := true, recurses := true, named := ["jobshell/pattern.classes"], apart := false, laid := [("jobshell/pattern.classes", laid_jobshell_pattern_classes)] }
def PatternRunsSaid : Prop := patternRunsRow.holds Tryd.pinned (OpenSpec.ofChange patternRunsSpec)

/-- ITS FALSE NEIGHBOUR: 'it returns false'. Refute it at one input. -/
def patternRunsWrong : ChangeSpec := { name := "patternRuns", fn := fun _ => fun
  | [d] => { results := [.lit (.bool false)], args := [d] }
  | _ => none }
def PatternRunsWrongFalsely : Prop := patternRunsRow.holds Tryd.pinned (OpenSpec.ofChange patternRunsWrong)

/-- 'jobshelllaw04.PatternMatches': WHATEVER THE INPUT: true; the input reads as it did. -/
def patternMatchesSpec : ChangeSpec := { name := "patternMatches", fn := fun _ => fun
  | [d1, d2] => { results := [.lit (.bool true)], args := [d1, d2] }
  | _ => none }
def patternMatchesRow : OpenClaim := { program := "yteppndkhmbhnkaadoor", sum := "cede1ad19aa6c8a97aefcd6827931fd472c0d8b2e23035c95a89a8119deaab84", func := "jobshell/jobshelllaw04.PatternMatches", spec := "patternMatches", inPlace := ["internal/abi.NoEscape"], unfollowed := true, recurses := true, named := ["jobshell/pattern.classes"], apart := false, laid := [("jobshell/pattern.classes", laid_jobshell_pattern_classes)] }
def PatternMatchesSaid : Prop := patternMatchesRow.holds Tryd.pinned (OpenSpec.ofChange patternMatchesSpec)

/-- ITS FALSE NEIGHBOUR: 'it returns false'. Refute it at one input. -/
def patternMatchesWrong : ChangeSpec := { name := "patternMatches", fn := fun _ => fun
  | [d1, d2] => { results := [.lit (.bool false)], args := [d1, d2] }
  | _ => none }
def PatternMatchesWrongFalsely : Prop := patternMatchesRow.holds Tryd.pinned (OpenSpec.ofChange patternMatchesWrong)

/-- 'jobshelllaw04.PatternEnds': WHATEVER THE INPUT: true; the input reads as it did. -/
def patternEndsSpec : ChangeSpec := { name := "patternEnds", fn := fun _ => fun
  | [d1, d2, d3] => { results := [.lit (.bool true)], args := [d1, d2, d3] }
  | _ => none }
def patternEndsRow : OpenClaim := { program := "yteppndkhmbhnkaadoor", sum := "cede1ad19aa6c8a97aefcd6827931fd472c0d8b2e23035c95a89a8119deaab84", func := "jobshell/jobshelllaw04.PatternEnds", spec := "patternEnds", inPlace := ["internal/abi.NoEscape"], unfollowed := true, recurses := true, named := ["jobshell/pattern.classes"], apart := false, laid := [("jobshell/pattern.classes", laid_jobshell_pattern_classes)] }
def PatternEndsSaid : Prop := patternEndsRow.holds Tryd.pinned (OpenSpec.ofChange patternEndsSpec)

/-- ITS FALSE NEIGHBOUR: 'it returns false'. Refute it at one input. -/
def patternEndsWrong : ChangeSpec := { name := "patternEnds", fn := fun _ => fun
  | [d1, d2, d3] => { results := [.lit (.bool false)], args := [d1, d2, d3] }
  | _ => none }
def PatternEndsWrongFalsely : Prop := patternEndsRow.holds Tryd.pinned (OpenSpec.ofChange patternEndsWrong)

/-- 'jobshelllaw04.PatternLiterals': WHATEVER THE INPUT: true; the input reads as it did. -/
def patternLiteralsSpec : ChangeSpec := { name := "patternLiterals", fn := fun _ => fun
  | [d1, d2] => { results := [.lit (.bool true)], args := [d1, d2] }
  | _ => none }
def patternLiteralsRow : OpenClaim := { program := "yteppndkhmbhnkaadoor", sum := "cede1ad19aa6c8a97aefcd6827931fd472c0d8b2e23035c95a89a8119deaab84", func := "jobshell/jobshelllaw04.PatternLiterals", spec := "patternLiterals", inPlace := ["internal/abi.NoEscape"], unfollowed := true, recurses := true, named := ["jobshell/pattern.classes"], apart := false, laid := [("jobshell/pattern.classes", laid_jobshell_pattern_classes)] }
def PatternLiteralsSaid : Prop := patternLiteralsRow.holds Tryd.pinned (OpenSpec.ofChange patternLiteralsSpec)

/-- ITS FALSE NEIGHBOUR: 'it returns false'. Refute it at one input. -/
def patternLiteralsWrong : ChangeSpec := { name := "patternLiterals", fn := fun _ => fun
  | [d1, d2] => { results := [.lit (.bool false)], args := [d1, d2] }
  | _ => none }
def PatternLiteralsWrongFalsely : Prop := patternLiteralsRow.holds Tryd.pinned (OpenSpec.ofChange patternLiteralsWrong)

/-- 'jobshelllaw04.PatternJoins': WHATEVER THE INPUT: true; the input reads as it did. -/
def patternJoinsSpec : ChangeSpec := { name := "patternJoins", fn := fun _ => fun
  | [d1, d2, d3] => { results := [.lit (.bool true)], args := [d1, d2, d3] }
  | _ => none }
def patternJoinsRow : OpenClaim := { program := "yteppndkhmbhnkaadoor", sum := "cede1ad19aa6c8a97aefcd6827931fd472c0d8b2e23035c95a89a8119deaab84", func := "jobshell/jobshelllaw04.PatternJoins", spec := "patternJoins", inPlace := ["internal/abi.NoEscape"], unfollowed := true, recurses := true, named := ["jobshell/pattern.classes"], apart := false, laid := [("jobshell/pattern.classes", laid_jobshell_pattern_classes)] }
def PatternJoinsSaid : Prop := patternJoinsRow.holds Tryd.pinned (OpenSpec.ofChange patternJoinsSpec)

/-- ITS FALSE NEIGHBOUR: 'it returns false'. Refute it at one input. -/
def patternJoinsWrong : ChangeSpec := { name := "patternJoins", fn := fun _ => fun
  | [d1, d2, d3] => { results := [.lit (.bool false)], args := [d1, d2, d3] }
  | _ => none }
def PatternJoinsWrongFalsely : Prop := patternJoinsRow.holds Tryd.pinned (OpenSpec.ofChange patternJoinsWrong)

/-- 'jobshelllaw04.PatternStars': WHATEVER THE INPUT: true; the input reads as it did. -/
def patternStarsSpec : ChangeSpec := { name := "patternStars", fn := fun _ => fun
  | [d1, d2, d3] => { results := [.lit (.bool true)], args := [d1, d2, d3] }
  | _ => none }
def patternStarsRow : OpenClaim := { program := "yteppndkhmbhnkaadoor", sum := "cede1ad19aa6c8a97aefcd6827931fd472c0d8b2e23035c95a89a8119deaab84", func := "jobshell/jobshelllaw04.PatternStars", spec := "patternStars", inPlace := ["internal/abi.NoEscape"], unfollowed := true, recurses := true, named := ["jobshell/pattern.classes"], apart := false, laid := [("jobshell/pattern.classes", laid_jobshell_pattern_classes)] }
def PatternStarsSaid : Prop := patternStarsRow.holds Tryd.pinned (OpenSpec.ofChange patternStarsSpec)

/-- ITS FALSE NEIGHBOUR: 'it returns false'. Refute it at one input. -/
def patternStarsWrong : ChangeSpec := { name := "patternStars", fn := fun _ => fun
  | [d1, d2, d3] => { results := [.lit (.bool false)], args := [d1, d2, d3] }
  | _ => none }
def PatternStarsWrongFalsely : Prop := patternStarsRow.holds Tryd.pinned (OpenSpec.ofChange patternStarsWrong)

/-- 'jobshelllaw07.LexerKinds': WHATEVER THE INPUT: true; the input reads as it did. -/
def lexerKindsSpec : ChangeSpec := { name := "lexerKinds", fn := fun _ => fun
  | [d] => { results := [.lit (.bool true)], args := [d] }
  | _ => none }
def lexerKindsRow : OpenClaim := { program := "yteppndkhmbhnkaadoor", sum := "cede1ad19aa6c8a97aefcd6827931fd472c0d8b2e23035c95a89a8119deaab84", func := "jobshell/jobshelllaw07.LexerKinds", spec := "lexerKinds", inPlace := ["internal/bytealg.IndexByteString", "internal/bytealg.IndexString"], recurses := true, named := ["unicode/utf8.first", "unicode/utf8.acceptRanges", "internal/bytealg.MaxLen"], apart := false, laid := [("unicode/utf8.acceptRanges", laid_unicode_utf8_acceptRanges), ("unicode/utf8.first", laid_unicode_utf8_first)] }
def LexerKindsSaid : Prop := lexerKindsRow.holds Tryd.pinned (OpenSpec.ofChange lexerKindsSpec)

/-- ITS FALSE NEIGHBOUR: 'it returns false'. Refute it at one input. -/
def lexerKindsWrong : ChangeSpec := { name := "lexerKinds", fn := fun _ => fun
  | [d] => { results := [.lit (.bool false)], args := [d] }
  | _ => none }
def LexerKindsWrongFalsely : Prop := lexerKindsRow.holds Tryd.pinned (OpenSpec.ofChange lexerKindsWrong)

/-- 'jobshelllaw07.LexerSkips': WHATEVER THE INPUT: true; the input reads as it did. -/
def lexerSkipsSpec : ChangeSpec := { name := "lexerSkips", fn := fun _ => fun
  | [d1, d2] => { results := [.lit (.bool true)], args := [d1, d2] }
  | _ => none }
def lexerSkipsRow : OpenClaim := { program := "yteppndkhmbhnkaadoor", sum := "cede1ad19aa6c8a97aefcd6827931fd472c0d8b2e23035c95a89a8119deaab84", func := "jobshell/jobshelllaw07.LexerSkips", spec := "lexerSkips", inPlace := ["internal/bytealg.IndexByteString", "internal/bytealg.IndexString"], recurses := true, named := ["unicode/utf8.first", "unicode/utf8.acceptRanges", "internal/bytealg.MaxLen"], apart := false, laid := [("unicode/utf8.acceptRanges", laid_unicode_utf8_acceptRanges), ("unicode/utf8.first", laid_unicode_utf8_first)] }
def LexerSkipsSaid : Prop := lexerSkipsRow.holds Tryd.pinned (OpenSpec.ofChange lexerSkipsSpec)

/-- ITS FALSE NEIGHBOUR: 'it returns false'. Refute it at one input. -/
def lexerSkipsWrong : ChangeSpec := { name := "lexerSkips", fn := fun _ => fun
  | [d1, d2] => { results := [.lit (.bool false)], args := [d1, d2] }
  | _ => none }
def LexerSkipsWrongFalsely : Prop := lexerSkipsRow.holds Tryd.pinned (OpenSpec.ofChange lexerSkipsWrong)

/-- 'jobshelllaw07.LexerCloses': WHATEVER THE INPUT: true; the input reads as it did. -/
def lexerClosesSpec : ChangeSpec := { name := "lexerCloses", fn := fun _ => fun
  | [d1, d2] => { results := [.lit (.bool true)], args := [d1, d2] }
  | _ => none }
def lexerClosesRow : OpenClaim := { program := "yteppndkhmbhnkaadoor", sum := "cede1ad19aa6c8a97aefcd6827931fd472c0d8b2e23035c95a89a8119deaab84", func := "jobshell/jobshelllaw07.LexerCloses", spec := "lexerCloses", inPlace := ["internal/bytealg.IndexByteString", "internal/bytealg.IndexString"], recurses := true, named := ["unicode/utf8.first", "unicode/utf8.acceptRanges", "internal/bytealg.MaxLen"], apart := false, laid := [("unicode/utf8.acceptRanges", laid_unicode_utf8_acceptRanges), ("unicode/utf8.first", laid_unicode_utf8_first)] }
def LexerClosesSaid : Prop := lexerClosesRow.holds Tryd.pinned (OpenSpec.ofChange lexerClosesSpec)

/-- ITS FALSE NEIGHBOUR: 'it returns false'. Refute it at one input. -/
def lexerClosesWrong : ChangeSpec := { name := "lexerCloses", fn := fun _ => fun
  | [d1, d2] => { results := [.lit (.bool false)], args := [d1, d2] }
  | _ => none }
def LexerClosesWrongFalsely : Prop := lexerClosesRow.holds Tryd.pinned (OpenSpec.ofChange lexerClosesWrong)

/-- 'jobshelllaw07.LexerNexts': WHATEVER THE INPUT: true; the input reads as it did. -/
def lexerNextsSpec : ChangeSpec := { name := "lexerNexts", fn := fun _ => fun
  | [d1, d2] => { results := [.lit (.bool true)], args := [d1, d2] }
  | _ => none }
def lexerNextsRow : OpenClaim := { program := "yteppndkhmbhnkaadoor", sum := "cede1ad19aa6c8a97aefcd6827931fd472c0d8b2e23035c95a89a8119deaab84", func := "jobshell/jobshelllaw07.LexerNexts", spec := "lexerNexts", inPlace := ["internal/bytealg.IndexByteString", "internal/bytealg.IndexString"], recurses := true, named := ["unicode/utf8.first", "unicode/utf8.acceptRanges", "internal/bytealg.MaxLen"], apart := false, laid := [("unicode/utf8.acceptRanges", laid_unicode_utf8_acceptRanges), ("unicode/utf8.first", laid_unicode_utf8_first)] }
def LexerNextsSaid : Prop := lexerNextsRow.holds Tryd.pinned (OpenSpec.ofChange lexerNextsSpec)

/-- ITS FALSE NEIGHBOUR: 'it returns false'. Refute it at one input. -/
def lexerNextsWrong : ChangeSpec := { name := "lexerNexts", fn := fun _ => fun
  | [d1, d2] => { results := [.lit (.bool false)], args := [d1, d2] }
  | _ => none }
def LexerNextsWrongFalsely : Prop := lexerNextsRow.holds Tryd.pinned (OpenSpec.ofChange lexerNextsWrong)

/-- 'jobshelllaw07.LexerAll': WHATEVER THE INPUT: true; the input reads as it did. -/
def lexerAllSpec : ChangeSpec := { name := "lexerAll", fn := fun _ => fun
  | [d] => { results := [.lit (.bool true)], args := [d] }
  | _ => none }
def lexerAllRow : OpenClaim := { program := "yteppndkhmbhnkaadoor", sum := "cede1ad19aa6c8a97aefcd6827931fd472c0d8b2e23035c95a89a8119deaab84", func := "jobshell/jobshelllaw07.LexerAll", spec := "lexerAll", inPlace := ["internal/bytealg.IndexByteString", "internal/bytealg.IndexString"], recurses := true, named := ["unicode/utf8.first", "unicode/utf8.acceptRanges", "internal/bytealg.MaxLen"], apart := false, laid := [("unicode/utf8.acceptRanges", laid_unicode_utf8_acceptRanges), ("unicode/utf8.first", laid_unicode_utf8_first)] }
def LexerAllSaid : Prop := lexerAllRow.holds Tryd.pinned (OpenSpec.ofChange lexerAllSpec)

/-- ITS FALSE NEIGHBOUR: 'it returns false'. Refute it at one input. -/
def lexerAllWrong : ChangeSpec := { name := "lexerAll", fn := fun _ => fun
  | [d] => { results := [.lit (.bool false)], args := [d] }
  | _ => none }
def LexerAllWrongFalsely : Prop := lexerAllRow.holds Tryd.pinned (OpenSpec.ofChange lexerAllWrong)

/- THE SECOND FORM. 'bulk': how many values and letters a reading holds, each counted each time it is reached (what is shared counts as often as it is met; a slice's spare places count too). A statement '..UptoSaid' is the law's where the arguments, and the package variables that the reading takes, are together of bulk at most 1048576: NARROWER than '..Said'. Prove '..Said' where nothing that the law and all that it calls make is longer than what came in: it says more and counts as full. Else prove '..UptoSaid'. A law counts once. -/
mutual
def uptoBulk {H : Type} : DataW H → Nat
  | .lit (.string bytes) => bytes.length + 1
  | .lit _ => 1
  | .nil => 1
  | .ptr d => uptoBulk d + 1
  | .slice elems spare => uptoBulkAll elems + uptoBulkAll spare + 1
  | .agg parts => uptoBulkAll parts + 1
  | .iface _ d => uptoBulk d + 1
  | .map entries => uptoBulkEntries entries + 1
  | .held _ => 1
def uptoBulkAll {H : Type} : List (DataW H) → Nat
  | [] => 0
  | d :: r => uptoBulk d + uptoBulkAll r
def uptoBulkEntries {H : Type} : List (Lit × DataW H) → Nat
  | [] => 0
  | x :: r => uptoBulkEntry x + uptoBulkEntries r
def uptoBulkEntry {H : Type} : Lit × DataW H → Nat
  | (.string bytes, d) => bytes.length + uptoBulk d + 1
  | (_, d) => uptoBulk d + 1
 end
def uptoSmall : (H : Type) → List (DataW H) → Bool := fun _ ds => decide (uptoBulkAll ds ≤ 1048576)
def OpenSpec.upto (s : _root_.Go.ChangeSpec) : _root_.Go.OpenSpec := { _root_.Go.OpenSpec.ofChange s with cond := some uptoSmall }

/-- 'jobshelllaw04.PatternCompiles', WHERE WHAT IT READS IS OF BULK AT MOST 1048576: true; the input reads as it did. -/
def patternCompilesUptoRow : OpenClaim := { program := "yteppndkhmbhnkaadoor", sum := "cede1ad19aa6c8a97aefcd6827931fd472c0d8b2e23035c95a89a8119deaab84", func := "jobshell/jobshelllaw04.PatternCompiles", spec := "patternCompiles", inPlace := ["internal/abi.NoEscape"], unfollowed := true, recurses := true, named := ["jobshell/pattern.classes"], apart := false, laid := [("jobshell/pattern.classes", laid_jobshell_pattern_classes)], narrowed := true }
def PatternCompilesUptoSaid : Prop := patternCompilesUptoRow.holds Tryd.pinned (OpenSpec.upto patternCompilesSpec)

/-- 'jobshelllaw04.PatternRuns', WHERE WHAT IT READS IS OF BULK AT MOST 1048576: true; the input reads as it did. -/
def patternRunsUptoRow : OpenClaim := { program := "yteppndkhmbhnkaadoor", sum := "cede1ad19aa6c8a97aefcd6827931fd472c0d8b2e23035c95a89a8119deaab84", func := "jobshell/jobshelllaw04.PatternRuns", spec := "patternRuns", inPlace := ["internal/abi.NoEscape"], unfollowed := true, recurses := true, named := ["jobshell/pattern.classes"], apart := false, laid := [("jobshell/pattern.classes", laid_jobshell_pattern_classes)], narrowed := true }
def PatternRunsUptoSaid : Prop := patternRunsUptoRow.holds Tryd.pinned (OpenSpec.upto patternRunsSpec)

/-- 'jobshelllaw04.PatternMatches', WHERE WHAT IT READS IS OF BULK AT MOST 1048576: true; the input reads as it did. -/
def patternMatchesUptoRow : OpenClaim := { program := "yteppndkhmbhnkaadoor", sum := "cede1ad19aa6c8a97aefcd6827931fd472c0d8b2e23035c95a89a8119deaab84", func := "jobshell/jobshelllaw04.PatternMatches", spec := "patternMatches", inPlace := ["internal/abi.NoEscape"], unfollowed := true, recurses := true, named := ["jobshell/pattern.classes"], apart := false, laid := [("jobshell/pattern.classes", laid_jobshell_pattern_classes)], narrowed := true }
def PatternMatchesUptoSaid : Prop := patternMatchesUptoRow.holds Tryd.pinned (OpenSpec.upto patternMatchesSpec)

/-- 'jobshelllaw04.PatternEnds', WHERE WHAT IT READS IS OF BULK AT MOST 1048576: true; the input reads as it did. -/
def patternEndsUptoRow : OpenClaim := { program := "yteppndkhmbhnkaadoor", sum := "cede1ad19aa6c8a97aefcd6827931fd472c0d8b2e23035c95a89a8119deaab84", func := "jobshell/jobshelllaw04.PatternEnds", spec := "patternEnds", inPlace := ["internal/abi.NoEscape"], unfollowed := true, recurses := true, named := ["jobshell/pattern.classes"], apart := false, laid := [("jobshell/pattern.classes", laid_jobshell_pattern_classes)], narrowed := true }
def PatternEndsUptoSaid : Prop := patternEndsUptoRow.holds Tryd.pinned (OpenSpec.upto patternEndsSpec)

/-- 'jobshelllaw04.PatternLiterals', WHERE WHAT IT READS IS OF BULK AT MOST 1048576: true; the input reads as it did. -/
def patternLiteralsUptoRow : OpenClaim := { program := "yteppndkhmbhnkaadoor", sum := "cede1ad19aa6c8a97aefcd6827931fd472c0d8b2e23035c95a89a8119deaab84", func := "jobshell/jobshelllaw04.PatternLiterals", spec := "patternLiterals", inPlace := ["internal/abi.NoEscape"], unfollowed := true, recurses := true, named := ["jobshell/pattern.classes"], apart := false, laid := [("jobshell/pattern.classes", laid_jobshell_pattern_classes)], narrowed := true }
def PatternLiteralsUptoSaid : Prop := patternLiteralsUptoRow.holds Tryd.pinned (OpenSpec.upto patternLiteralsSpec)

/-- 'jobshelllaw04.PatternJoins', WHERE WHAT IT READS IS OF BULK AT MOST 1048576: true; the input reads as it did. -/
def patternJoinsUptoRow : OpenClaim := { program := "yteppndkhmbhnkaadoor", sum := "cede1ad19aa6c8a97aefcd6827931fd472c0d8b2e23035c95a89a8119deaab84", func := "jobshell/jobshelllaw04.PatternJoins", spec := "patternJoins", inPlace := ["internal/abi.NoEscape"], unfollowed := true, recurses := true, named := ["jobshell/pattern.classes"], apart := false, laid := [("jobshell/pattern.classes", laid_jobshell_pattern_classes)], narrowed := true }
def PatternJoinsUptoSaid : Prop := patternJoinsUptoRow.holds Tryd.pinned (OpenSpec.upto patternJoinsSpec)

/-- 'jobshelllaw04.PatternStars', WHERE WHAT IT READS IS OF BULK AT MOST 1048576: true; the input reads as it did. -/
def patternStarsUptoRow : OpenClaim := { program := "yteppndkhmbhnkaadoor", sum := "cede1ad19aa6c8a97aefcd6827931fd472c0d8b2e23035c95a89a8119deaab84", func := "jobshell/jobshelllaw04.PatternStars", spec := "patternStars", inPlace := ["internal/abi.NoEscape"], unfollowed := true, recurses := true, named := ["jobshell/pattern.classes"], apart := false, laid := [("jobshell/pattern.classes", laid_jobshell_pattern_classes)], narrowed := true }
def PatternStarsUptoSaid : Prop := patternStarsUptoRow.holds Tryd.pinned (OpenSpec.upto patternStarsSpec)

/-- 'jobshelllaw07.LexerKinds', WHERE WHAT IT READS IS OF BULK AT MOST 1048576: true; the input reads as it did. -/
def lexerKindsUptoRow : OpenClaim := { program := "yteppndkhmbhnkaadoor", sum := "cede1ad19aa6c8a97aefcd6827931fd472c0d8b2e23035c95a89a8119deaab84", func := "jobshell/jobshelllaw07.LexerKinds", spec := "lexerKinds", inPlace := ["internal/bytealg.IndexByteString", "internal/bytealg.IndexString"], recurses := true, named := ["unicode/utf8.first", "unicode/utf8.acceptRanges", "internal/bytealg.MaxLen"], apart := false, laid := [("unicode/utf8.acceptRanges", laid_unicode_utf8_acceptRanges), ("unicode/utf8.first", laid_unicode_utf8_first)], narrowed := true }
def LexerKindsUptoSaid : Prop := lexerKindsUptoRow.holds Tryd.pinned (OpenSpec.upto lexerKindsSpec)

/-- 'jobshelllaw07.LexerSkips', WHERE WHAT IT READS IS OF BULK AT MOST 1048576: true; the input reads as it did. -/
def lexerSkipsUptoRow : OpenClaim := { program := "yteppndkhmbhnkaadoor", sum := "cede1ad19aa6c8a97aefcd6827931fd472c0d8b2e23035c95a89a8119deaab84", func := "jobshell/jobshelllaw07.LexerSkips", spec := "lexerSkips", inPlace := ["internal/bytealg.IndexByteString", "internal/bytealg.IndexString"], recurses := true, named := ["unicode/utf8.first", "unicode/utf8.acceptRanges", "internal/bytealg.MaxLen"], apart := false, laid := [("unicode/utf8.acceptRanges", laid_unicode_utf8_acceptRanges), ("unicode/utf8.first", laid_unicode_utf8_first)], narrowed := true }
def LexerSkipsUptoSaid : Prop := lexerSkipsUptoRow.holds Tryd.pinned (OpenSpec.upto lexerSkipsSpec)

/-- 'jobshelllaw07.LexerCloses', WHERE WHAT IT READS IS OF BULK AT MOST 1048576: true; the input reads as it did. -/
def lexerClosesUptoRow : OpenClaim := { program := "yteppndkhmbhnkaadoor", sum := "cede1ad19aa6c8a97aefcd6827931fd472c0d8b2e23035c95a89a8119deaab84", func := "jobshell/jobshelllaw07.LexerCloses", spec := "lexerCloses", inPlace := ["internal/bytealg.IndexByteString", "internal/bytealg.IndexString"], recurses := true, named := ["unicode/utf8.first", "unicode/utf8.acceptRanges", "internal/bytealg.MaxLen"], apart := false, laid := [("unicode/utf8.acceptRanges", laid_unicode_utf8_acceptRanges), ("unicode/utf8.first", laid_unicode_utf8_first)], narrowed := true }
def LexerClosesUptoSaid : Prop := lexerClosesUptoRow.holds Tryd.pinned (OpenSpec.upto lexerClosesSpec)

/-- 'jobshelllaw07.LexerNexts', WHERE WHAT IT READS IS OF BULK AT MOST 1048576: true; the input reads as it did. -/
def lexerNextsUptoRow : OpenClaim := { program := "yteppndkhmbhnkaadoor", sum := "cede1ad19aa6c8a97aefcd6827931fd472c0d8b2e23035c95a89a8119deaab84", func := "jobshell/jobshelllaw07.LexerNexts", spec := "lexerNexts", inPlace := ["internal/bytealg.IndexByteString", "internal/bytealg.IndexString"], recurses := true, named := ["unicode/utf8.first", "unicode/utf8.acceptRanges", "internal/bytealg.MaxLen"], apart := false, laid := [("unicode/utf8.acceptRanges", laid_unicode_utf8_acceptRanges), ("unicode/utf8.first", laid_unicode_utf8_first)], narrowed := true }
def LexerNextsUptoSaid : Prop := lexerNextsUptoRow.holds Tryd.pinned (OpenSpec.upto lexerNextsSpec)

/-- 'jobshelllaw07.LexerAll', WHERE WHAT IT READS IS OF BULK AT MOST 1048576: true; the input reads as it did. -/
def lexerAllUptoRow : OpenClaim := { program := "yteppndkhmbhnkaadoor", sum := "cede1ad19aa6c8a97aefcd6827931fd472c0d8b2e23035c95a89a8119deaab84", func := "jobshell/jobshelllaw07.LexerAll", spec := "lexerAll", inPlace := ["internal/bytealg.IndexByteString", "internal/bytealg.IndexString"], recurses := true, named := ["unicode/utf8.first", "unicode/utf8.acceptRanges", "internal/bytealg.MaxLen"], apart := false, laid := [("unicode/utf8.acceptRanges", laid_unicode_utf8_acceptRanges), ("unicode/utf8.first", laid_unicode_utf8_first)], narrowed := true }
def LexerAllUptoSaid : Prop := lexerAllUptoRow.holds Tryd.pinned (OpenSpec.upto lexerAllSpec)

end Rows
end Go.Proofs.YteppndkhmbhnkaaDoor
