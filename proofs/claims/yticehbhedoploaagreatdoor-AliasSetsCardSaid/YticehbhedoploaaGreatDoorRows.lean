/-
  NARROWER THAN 'FOR EVERY INPUT', by the rows' own cells (each row's printed sentence says how): AliasValids: laid · AliasSets: laid · AliasUnsets: laid · AliasExpands: laid · AliasNone: laid · AliasOne: laid · AliasList: laid · HeredocStrips: laid · HeredocDelimiters: laid · HeredocRounds: laid · HeredocTabs: laid · SimpleAssigns: laid.
  DERIVED. THE GIVEN ROWS OF THIS SEAT. 12 by the template 'for every input the law returns true; each argument reads behind the call as it read before'; 0 by the template 'total and deterministic' (their statements: YticehbhedoploaaGreatDoorTotals.lean).
  GIVEN WITH THE SEED: the statements are not yours to turn. If you find one false, say at which input.
  Laid BY PROGRAM, IN A SANDBOX (cutbox-rows.mjs): the forced cells as the released guide's own fill.sh prints them over the translation 81ac95da9e1fd1e1… (all of the seat's roots in one cut). By AI agents, Wed Nov 11 2026. No macro, syntax, notation, axiom, sorry.
-/
import Derived.Test.YticehbhedoploaaGreatDoorChecked
import GoSem.PinnedTables
import GoSem.Claim
import GoSem.ClaimJoined
import GoSem.ClaimMapViews
import Derived.JoinedTies
import Derived.KernelRfl
namespace Go.Proofs.YticehbhedoploaaGreatDoor
/- THE CELL 'sum', in the pinned program and in every row, IS THE sha256 OF THE DUMP (.gsa) THAT YticehbhedoploaaGreatDoorProg.lean LOADS. Nothing in Lean hashes anything: it is a label: what it is worth is what the hold of that sum in a sandbox is worth. -/
noncomputable def Tryz.pinned : Pinned := { name := "yticehbhedoploaagreatdoor", sum := "81ac95da9e1fd1e10c4ac14e5822f23f605d10177c37322776b6d63f3c534248", checked := Tryz.checked }
namespace Rows
def none {H : Type} : Left H := { results := [], args := [] }

/- WHAT THE LISTED PACKAGE-LEVEL VARIABLES READ AS WHEN THE CALL BEGINS. Each datum BY PROGRAM (the guide's laid-datum.mjs) off the statement by which the dump's own 'gosem.cut.vars' lays the variable. In a bare row this is a premise. The card (YticehbhedoploaaGreatDoorCards.lean) ties it to the program's text. -/
def laid_unicode_utf8_acceptRanges {H : Type} : DataW H := .agg [.agg [.lit (.int .u8 128), .lit (.int .u8 191)], .agg [.lit (.int .u8 160), .lit (.int .u8 191)], .agg [.lit (.int .u8 128), .lit (.int .u8 159)], .agg [.lit (.int .u8 144), .lit (.int .u8 191)], .agg [.lit (.int .u8 128), .lit (.int .u8 143)], .agg [.lit (.int .u8 0), .lit (.int .u8 0)], .agg [.lit (.int .u8 0), .lit (.int .u8 0)], .agg [.lit (.int .u8 0), .lit (.int .u8 0)], .agg [.lit (.int .u8 0), .lit (.int .u8 0)], .agg [.lit (.int .u8 0), .lit (.int .u8 0)], .agg [.lit (.int .u8 0), .lit (.int .u8 0)], .agg [.lit (.int .u8 0), .lit (.int .u8 0)], .agg [.lit (.int .u8 0), .lit (.int .u8 0)], .agg [.lit (.int .u8 0), .lit (.int .u8 0)], .agg [.lit (.int .u8 0), .lit (.int .u8 0)], .agg [.lit (.int .u8 0), .lit (.int .u8 0)]]
def laid_jobshell_source_operators {H : Type} : DataW H := .agg [.lit (.string []), .lit (.string [45]), .lit (.string [61]), .lit (.string [63]), .lit (.string [43]), .lit (.string []), .lit (.string [37]), .lit (.string [37, 37]), .lit (.string [35]), .lit (.string [35, 35])]
/-- One of Go's own tables, pinned by name: the form's constant. -/
def laid_unicode_utf8_first : DataW Unit := Go.Pinned.utf8First
def laid_math_bits_deBruijn32tab {H : Type} : DataW H := .agg [.lit (.int .u8 0), .lit (.int .u8 1), .lit (.int .u8 28), .lit (.int .u8 2), .lit (.int .u8 29), .lit (.int .u8 14), .lit (.int .u8 24), .lit (.int .u8 3), .lit (.int .u8 30), .lit (.int .u8 22), .lit (.int .u8 20), .lit (.int .u8 15), .lit (.int .u8 25), .lit (.int .u8 17), .lit (.int .u8 4), .lit (.int .u8 8), .lit (.int .u8 31), .lit (.int .u8 27), .lit (.int .u8 13), .lit (.int .u8 23), .lit (.int .u8 21), .lit (.int .u8 19), .lit (.int .u8 16), .lit (.int .u8 7), .lit (.int .u8 26), .lit (.int .u8 12), .lit (.int .u8 18), .lit (.int .u8 6), .lit (.int .u8 11), .lit (.int .u8 5), .lit (.int .u8 10), .lit (.int .u8 9)]
def laid_math_bits_deBruijn64tab {H : Type} : DataW H := .agg [.lit (.int .u8 0), .lit (.int .u8 1), .lit (.int .u8 56), .lit (.int .u8 2), .lit (.int .u8 57), .lit (.int .u8 49), .lit (.int .u8 28), .lit (.int .u8 3), .lit (.int .u8 61), .lit (.int .u8 58), .lit (.int .u8 42), .lit (.int .u8 50), .lit (.int .u8 38), .lit (.int .u8 29), .lit (.int .u8 17), .lit (.int .u8 4), .lit (.int .u8 62), .lit (.int .u8 47), .lit (.int .u8 59), .lit (.int .u8 36), .lit (.int .u8 45), .lit (.int .u8 43), .lit (.int .u8 51), .lit (.int .u8 22), .lit (.int .u8 53), .lit (.int .u8 39), .lit (.int .u8 33), .lit (.int .u8 30), .lit (.int .u8 24), .lit (.int .u8 18), .lit (.int .u8 12), .lit (.int .u8 5), .lit (.int .u8 63), .lit (.int .u8 55), .lit (.int .u8 48), .lit (.int .u8 27), .lit (.int .u8 60), .lit (.int .u8 41), .lit (.int .u8 37), .lit (.int .u8 16), .lit (.int .u8 46), .lit (.int .u8 35), .lit (.int .u8 44), .lit (.int .u8 21), .lit (.int .u8 52), .lit (.int .u8 32), .lit (.int .u8 23), .lit (.int .u8 11), .lit (.int .u8 54), .lit (.int .u8 26), .lit (.int .u8 40), .lit (.int .u8 15), .lit (.int .u8 34), .lit (.int .u8 20), .lit (.int .u8 31), .lit (.int .u8 10), .lit (.int .u8 25), .lit (.int .u8 14), .lit (.int .u8 19), .lit (.int .u8 9), .lit (.int .u8 13), .lit (.int .u8 8), .lit (.int .u8 7), .lit (.int .u8 6)]
def laid_internal_strconv_uint64pow10 {H : Type} : DataW H := .agg [.lit (.int .u64 1), .lit (.int .u64 10), .lit (.int .u64 100), .lit (.int .u64 1000), .lit (.int .u64 10000), .lit (.int .u64 100000), .lit (.int .u64 1000000), .lit (.int .u64 10000000), .lit (.int .u64 100000000), .lit (.int .u64 1000000000), .lit (.int .u64 10000000000), .lit (.int .u64 100000000000), .lit (.int .u64 1000000000000), .lit (.int .u64 10000000000000), .lit (.int .u64 100000000000000), .lit (.int .u64 1000000000000000), .lit (.int .u64 10000000000000000), .lit (.int .u64 100000000000000000), .lit (.int .u64 1000000000000000000), .lit (.int .u64 10000000000000000000)]

/-- 'jobshelllaw09.AliasValids': WHATEVER THE INPUT: true; the input reads as it did. -/
def aliasValidsSpec : ChangeSpec := { name := "aliasValids", fn := fun _ => fun
  | [d] => { results := [.lit (.bool true)], args := [d] }
  | _ => none }
def aliasValidsRow : OpenClaim := { program := "yticehbhedoploaagreatdoor", sum := "81ac95da9e1fd1e10c4ac14e5822f23f605d10177c37322776b6d63f3c534248", func := "jobshell/jobshelllaw09.AliasValids", spec := "aliasValids", inPlace := ["internal/bytealg.IndexByteString", "internal/bytealg.IndexString", "slices.overlaps[jobshell/api.Alias]", "internal/abi.NoEscape"], unfollowed := true, recurses := true, named := ["unicode/utf8.first", "unicode/utf8.acceptRanges", "jobshell/source.operators", "internal/bytealg.MaxLen"], apart := false, laid := [("unicode/utf8.acceptRanges", laid_unicode_utf8_acceptRanges), ("jobshell/source.operators", laid_jobshell_source_operators), ("unicode/utf8.first", laid_unicode_utf8_first)] }
def AliasValidsSaid : Prop := aliasValidsRow.holds Tryz.pinned (OpenSpec.ofChange aliasValidsSpec)

/-- ITS FALSE NEIGHBOUR: 'it returns false'. Refute it at one input. -/
def aliasValidsWrong : ChangeSpec := { name := "aliasValids", fn := fun _ => fun
  | [d] => { results := [.lit (.bool false)], args := [d] }
  | _ => none }
def AliasValidsWrongFalsely : Prop := aliasValidsRow.holds Tryz.pinned (OpenSpec.ofChange aliasValidsWrong)

/-- 'jobshelllaw09.AliasSets': WHATEVER THE INPUT: true; the input reads as it did. -/
def aliasSetsSpec : ChangeSpec := { name := "aliasSets", fn := fun _ => fun
  | [d1, d2, d3] => { results := [.lit (.bool true)], args := [d1, d2, d3] }
  | _ => none }
def aliasSetsRow : OpenClaim := { program := "yticehbhedoploaagreatdoor", sum := "81ac95da9e1fd1e10c4ac14e5822f23f605d10177c37322776b6d63f3c534248", func := "jobshell/jobshelllaw09.AliasSets", spec := "aliasSets", inPlace := ["internal/bytealg.IndexByteString", "internal/bytealg.IndexString", "slices.overlaps[jobshell/api.Alias]", "internal/abi.NoEscape"], unfollowed := true, recurses := true, named := ["unicode/utf8.first", "unicode/utf8.acceptRanges", "jobshell/source.operators", "internal/bytealg.MaxLen"], apart := false, laid := [("unicode/utf8.acceptRanges", laid_unicode_utf8_acceptRanges), ("jobshell/source.operators", laid_jobshell_source_operators), ("unicode/utf8.first", laid_unicode_utf8_first)] }
def AliasSetsSaid : Prop := aliasSetsRow.holds Tryz.pinned (OpenSpec.ofChange aliasSetsSpec)

/-- ITS FALSE NEIGHBOUR: 'it returns false'. Refute it at one input. -/
def aliasSetsWrong : ChangeSpec := { name := "aliasSets", fn := fun _ => fun
  | [d1, d2, d3] => { results := [.lit (.bool false)], args := [d1, d2, d3] }
  | _ => none }
def AliasSetsWrongFalsely : Prop := aliasSetsRow.holds Tryz.pinned (OpenSpec.ofChange aliasSetsWrong)

/-- 'jobshelllaw09.AliasUnsets': WHATEVER THE INPUT: true; the input reads as it did. -/
def aliasUnsetsSpec : ChangeSpec := { name := "aliasUnsets", fn := fun _ => fun
  | [d1, d2] => { results := [.lit (.bool true)], args := [d1, d2] }
  | _ => none }
def aliasUnsetsRow : OpenClaim := { program := "yticehbhedoploaagreatdoor", sum := "81ac95da9e1fd1e10c4ac14e5822f23f605d10177c37322776b6d63f3c534248", func := "jobshell/jobshelllaw09.AliasUnsets", spec := "aliasUnsets", inPlace := ["internal/bytealg.IndexByteString", "internal/bytealg.IndexString", "slices.overlaps[jobshell/api.Alias]", "internal/abi.NoEscape"], unfollowed := true, recurses := true, named := ["unicode/utf8.first", "unicode/utf8.acceptRanges", "jobshell/source.operators", "internal/bytealg.MaxLen"], apart := false, laid := [("unicode/utf8.acceptRanges", laid_unicode_utf8_acceptRanges), ("jobshell/source.operators", laid_jobshell_source_operators), ("unicode/utf8.first", laid_unicode_utf8_first)] }
def AliasUnsetsSaid : Prop := aliasUnsetsRow.holds Tryz.pinned (OpenSpec.ofChange aliasUnsetsSpec)

/-- ITS FALSE NEIGHBOUR: 'it returns false'. Refute it at one input. -/
def aliasUnsetsWrong : ChangeSpec := { name := "aliasUnsets", fn := fun _ => fun
  | [d1, d2] => { results := [.lit (.bool false)], args := [d1, d2] }
  | _ => none }
def AliasUnsetsWrongFalsely : Prop := aliasUnsetsRow.holds Tryz.pinned (OpenSpec.ofChange aliasUnsetsWrong)

/-- 'jobshelllaw09.AliasExpands': WHATEVER THE INPUT: true; the input reads as it did. -/
def aliasExpandsSpec : ChangeSpec := { name := "aliasExpands", fn := fun _ => fun
  | [d1, d2] => { results := [.lit (.bool true)], args := [d1, d2] }
  | _ => none }
def aliasExpandsRow : OpenClaim := { program := "yticehbhedoploaagreatdoor", sum := "81ac95da9e1fd1e10c4ac14e5822f23f605d10177c37322776b6d63f3c534248", func := "jobshell/jobshelllaw09.AliasExpands", spec := "aliasExpands", inPlace := ["internal/bytealg.IndexByteString", "internal/bytealg.IndexString", "slices.overlaps[jobshell/api.Alias]", "internal/abi.NoEscape"], unfollowed := true, recurses := true, named := ["unicode/utf8.first", "unicode/utf8.acceptRanges", "jobshell/source.operators", "internal/bytealg.MaxLen"], apart := false, laid := [("unicode/utf8.acceptRanges", laid_unicode_utf8_acceptRanges), ("jobshell/source.operators", laid_jobshell_source_operators), ("unicode/utf8.first", laid_unicode_utf8_first)] }
def AliasExpandsSaid : Prop := aliasExpandsRow.holds Tryz.pinned (OpenSpec.ofChange aliasExpandsSpec)

/-- ITS FALSE NEIGHBOUR: 'it returns false'. Refute it at one input. -/
def aliasExpandsWrong : ChangeSpec := { name := "aliasExpands", fn := fun _ => fun
  | [d1, d2] => { results := [.lit (.bool false)], args := [d1, d2] }
  | _ => none }
def AliasExpandsWrongFalsely : Prop := aliasExpandsRow.holds Tryz.pinned (OpenSpec.ofChange aliasExpandsWrong)

/-- 'jobshelllaw09.AliasNone': WHATEVER THE INPUT: true; the input reads as it did. -/
def aliasNoneSpec : ChangeSpec := { name := "aliasNone", fn := fun _ => fun
  | [d] => { results := [.lit (.bool true)], args := [d] }
  | _ => none }
def aliasNoneRow : OpenClaim := { program := "yticehbhedoploaagreatdoor", sum := "81ac95da9e1fd1e10c4ac14e5822f23f605d10177c37322776b6d63f3c534248", func := "jobshell/jobshelllaw09.AliasNone", spec := "aliasNone", inPlace := ["internal/bytealg.IndexByteString", "internal/bytealg.IndexString", "slices.overlaps[jobshell/api.Alias]", "internal/abi.NoEscape"], unfollowed := true, recurses := true, named := ["unicode/utf8.first", "unicode/utf8.acceptRanges", "jobshell/source.operators", "internal/bytealg.MaxLen"], apart := false, laid := [("unicode/utf8.acceptRanges", laid_unicode_utf8_acceptRanges), ("jobshell/source.operators", laid_jobshell_source_operators), ("unicode/utf8.first", laid_unicode_utf8_first)] }
def AliasNoneSaid : Prop := aliasNoneRow.holds Tryz.pinned (OpenSpec.ofChange aliasNoneSpec)

/-- ITS FALSE NEIGHBOUR: 'it returns false'. Refute it at one input. -/
def aliasNoneWrong : ChangeSpec := { name := "aliasNone", fn := fun _ => fun
  | [d] => { results := [.lit (.bool false)], args := [d] }
  | _ => none }
def AliasNoneWrongFalsely : Prop := aliasNoneRow.holds Tryz.pinned (OpenSpec.ofChange aliasNoneWrong)

/-- 'jobshelllaw09.AliasOne': WHATEVER THE INPUT: true; the input reads as it did. -/
def aliasOneSpec : ChangeSpec := { name := "aliasOne", fn := fun _ => fun
  | [d1, d2] => { results := [.lit (.bool true)], args := [d1, d2] }
  | _ => none }
def aliasOneRow : OpenClaim := { program := "yticehbhedoploaagreatdoor", sum := "81ac95da9e1fd1e10c4ac14e5822f23f605d10177c37322776b6d63f3c534248", func := "jobshell/jobshelllaw09.AliasOne", spec := "aliasOne", inPlace := ["internal/bytealg.IndexByteString", "internal/bytealg.IndexString", "slices.overlaps[jobshell/api.Alias]", "internal/abi.NoEscape"], unfollowed := true, recurses := true, named := ["unicode/utf8.first", "unicode/utf8.acceptRanges", "jobshell/source.operators", "internal/bytealg.MaxLen"], apart := false, laid := [("unicode/utf8.acceptRanges", laid_unicode_utf8_acceptRanges), ("jobshell/source.operators", laid_jobshell_source_operators), ("unicode/utf8.first", laid_unicode_utf8_first)] }
def AliasOneSaid : Prop := aliasOneRow.holds Tryz.pinned (OpenSpec.ofChange aliasOneSpec)

/-- ITS FALSE NEIGHBOUR: 'it returns false'. Refute it at one input. -/
def aliasOneWrong : ChangeSpec := { name := "aliasOne", fn := fun _ => fun
  | [d1, d2] => { results := [.lit (.bool false)], args := [d1, d2] }
  | _ => none }
def AliasOneWrongFalsely : Prop := aliasOneRow.holds Tryz.pinned (OpenSpec.ofChange aliasOneWrong)

/-- 'jobshelllaw09.AliasList': WHATEVER THE INPUT: true; the input reads as it did. -/
def aliasListSpec : ChangeSpec := { name := "aliasList", fn := fun _ => fun
  | [d1, d2, d3] => { results := [.lit (.bool true)], args := [d1, d2, d3] }
  | _ => none }
def aliasListRow : OpenClaim := { program := "yticehbhedoploaagreatdoor", sum := "81ac95da9e1fd1e10c4ac14e5822f23f605d10177c37322776b6d63f3c534248", func := "jobshell/jobshelllaw09.AliasList", spec := "aliasList", inPlace := ["internal/bytealg.IndexByteString", "internal/bytealg.IndexString", "slices.overlaps[jobshell/api.Alias]", "internal/abi.NoEscape"], unfollowed := true, recurses := true, named := ["unicode/utf8.first", "unicode/utf8.acceptRanges", "jobshell/source.operators", "internal/bytealg.MaxLen"], apart := false, laid := [("unicode/utf8.acceptRanges", laid_unicode_utf8_acceptRanges), ("jobshell/source.operators", laid_jobshell_source_operators), ("unicode/utf8.first", laid_unicode_utf8_first)] }
def AliasListSaid : Prop := aliasListRow.holds Tryz.pinned (OpenSpec.ofChange aliasListSpec)

/-- ITS FALSE NEIGHBOUR: 'it returns false'. Refute it at one input. -/
def aliasListWrong : ChangeSpec := { name := "aliasList", fn := fun _ => fun
  | [d1, d2, d3] => { results := [.lit (.bool false)], args := [d1, d2, d3] }
  | _ => none }
def AliasListWrongFalsely : Prop := aliasListRow.holds Tryz.pinned (OpenSpec.ofChange aliasListWrong)

/-- 'jobshelllaw10.HeredocStrips': WHATEVER THE INPUT: true; the input reads as it did. -/
def heredocStripsSpec : ChangeSpec := { name := "heredocStrips", fn := fun _ => fun
  | [d] => { results := [.lit (.bool true)], args := [d] }
  | _ => none }
def heredocStripsRow : OpenClaim := { program := "yticehbhedoploaagreatdoor", sum := "81ac95da9e1fd1e10c4ac14e5822f23f605d10177c37322776b6d63f3c534248", func := "jobshell/jobshelllaw10.HeredocStrips", spec := "heredocStrips", inPlace := ["internal/bytealg.IndexByteString", "internal/bytealg.IndexString", "internal/abi.NoEscape"], unfollowed := true, recurses := true, named := ["unicode/utf8.first", "unicode/utf8.acceptRanges", "jobshell/source.operators", "internal/bytealg.MaxLen", "internal/strconv.uint64pow10", "math/bits.deBruijn32tab", "math/bits.deBruijn64tab"], apart := false, laid := [("math/bits.deBruijn32tab", laid_math_bits_deBruijn32tab), ("math/bits.deBruijn64tab", laid_math_bits_deBruijn64tab), ("internal/strconv.uint64pow10", laid_internal_strconv_uint64pow10), ("unicode/utf8.acceptRanges", laid_unicode_utf8_acceptRanges), ("jobshell/source.operators", laid_jobshell_source_operators), ("unicode/utf8.first", laid_unicode_utf8_first)] }
def HeredocStripsSaid : Prop := heredocStripsRow.holds Tryz.pinned (OpenSpec.ofChange heredocStripsSpec)

/-- ITS FALSE NEIGHBOUR: 'it returns false'. Refute it at one input. -/
def heredocStripsWrong : ChangeSpec := { name := "heredocStrips", fn := fun _ => fun
  | [d] => { results := [.lit (.bool false)], args := [d] }
  | _ => none }
def HeredocStripsWrongFalsely : Prop := heredocStripsRow.holds Tryz.pinned (OpenSpec.ofChange heredocStripsWrong)

/-- 'jobshelllaw10.HeredocDelimiters': WHATEVER THE INPUT: true; the input reads as it did. -/
def heredocDelimitersSpec : ChangeSpec := { name := "heredocDelimiters", fn := fun _ => fun
  | [d] => { results := [.lit (.bool true)], args := [d] }
  | _ => none }
def heredocDelimitersRow : OpenClaim := { program := "yticehbhedoploaagreatdoor", sum := "81ac95da9e1fd1e10c4ac14e5822f23f605d10177c37322776b6d63f3c534248", func := "jobshell/jobshelllaw10.HeredocDelimiters", spec := "heredocDelimiters", inPlace := ["internal/bytealg.IndexByteString", "internal/bytealg.IndexString", "internal/abi.NoEscape"], unfollowed := true, recurses := true, named := ["unicode/utf8.first", "unicode/utf8.acceptRanges", "jobshell/source.operators", "internal/bytealg.MaxLen", "internal/strconv.uint64pow10", "math/bits.deBruijn32tab", "math/bits.deBruijn64tab"], apart := false, laid := [("math/bits.deBruijn32tab", laid_math_bits_deBruijn32tab), ("math/bits.deBruijn64tab", laid_math_bits_deBruijn64tab), ("internal/strconv.uint64pow10", laid_internal_strconv_uint64pow10), ("unicode/utf8.acceptRanges", laid_unicode_utf8_acceptRanges), ("jobshell/source.operators", laid_jobshell_source_operators), ("unicode/utf8.first", laid_unicode_utf8_first)] }
def HeredocDelimitersSaid : Prop := heredocDelimitersRow.holds Tryz.pinned (OpenSpec.ofChange heredocDelimitersSpec)

/-- ITS FALSE NEIGHBOUR: 'it returns false'. Refute it at one input. -/
def heredocDelimitersWrong : ChangeSpec := { name := "heredocDelimiters", fn := fun _ => fun
  | [d] => { results := [.lit (.bool false)], args := [d] }
  | _ => none }
def HeredocDelimitersWrongFalsely : Prop := heredocDelimitersRow.holds Tryz.pinned (OpenSpec.ofChange heredocDelimitersWrong)

/-- 'jobshelllaw10.HeredocRounds': WHATEVER THE INPUT: true; the input reads as it did. -/
def heredocRoundsSpec : ChangeSpec := { name := "heredocRounds", fn := fun _ => fun
  | [d1, d2] => { results := [.lit (.bool true)], args := [d1, d2] }
  | _ => none }
def heredocRoundsRow : OpenClaim := { program := "yticehbhedoploaagreatdoor", sum := "81ac95da9e1fd1e10c4ac14e5822f23f605d10177c37322776b6d63f3c534248", func := "jobshell/jobshelllaw10.HeredocRounds", spec := "heredocRounds", inPlace := ["internal/bytealg.IndexByteString", "internal/bytealg.IndexString", "internal/abi.NoEscape"], unfollowed := true, recurses := true, named := ["unicode/utf8.first", "unicode/utf8.acceptRanges", "jobshell/source.operators", "internal/bytealg.MaxLen", "internal/strconv.uint64pow10", "math/bits.deBruijn32tab", "math/bits.deBruijn64tab"], apart := false, laid := [("math/bits.deBruijn32tab", laid_math_bits_deBruijn32tab), ("math/bits.deBruijn64tab", laid_math_bits_deBruijn64tab), ("internal/strconv.uint64pow10", laid_internal_strconv_uint64pow10), ("unicode/utf8.acceptRanges", laid_unicode_utf8_acceptRanges), ("jobshell/source.operators", laid_jobshell_source_operators), ("unicode/utf8.first", laid_unicode_utf8_first)] }
def HeredocRoundsSaid : Prop := heredocRoundsRow.holds Tryz.pinned (OpenSpec.ofChange heredocRoundsSpec)

/-- ITS FALSE NEIGHBOUR: 'it returns false'. Refute it at one input. -/
def heredocRoundsWrong : ChangeSpec := { name := "heredocRounds", fn := fun _ => fun
  | [d1, d2] => { results := [.lit (.bool false)], args := [d1, d2] }
  | _ => none }
def HeredocRoundsWrongFalsely : Prop := heredocRoundsRow.holds Tryz.pinned (OpenSpec.ofChange heredocRoundsWrong)

/-- 'jobshelllaw10.HeredocTabs': WHATEVER THE INPUT: true; the input reads as it did. -/
def heredocTabsSpec : ChangeSpec := { name := "heredocTabs", fn := fun _ => fun
  | [d1, d2] => { results := [.lit (.bool true)], args := [d1, d2] }
  | _ => none }
def heredocTabsRow : OpenClaim := { program := "yticehbhedoploaagreatdoor", sum := "81ac95da9e1fd1e10c4ac14e5822f23f605d10177c37322776b6d63f3c534248", func := "jobshell/jobshelllaw10.HeredocTabs", spec := "heredocTabs", inPlace := ["internal/bytealg.IndexByteString", "internal/bytealg.IndexString", "internal/abi.NoEscape"], unfollowed := true, recurses := true, named := ["unicode/utf8.first", "unicode/utf8.acceptRanges", "jobshell/source.operators", "internal/bytealg.MaxLen", "internal/strconv.uint64pow10", "math/bits.deBruijn32tab", "math/bits.deBruijn64tab"], apart := false, laid := [("math/bits.deBruijn32tab", laid_math_bits_deBruijn32tab), ("math/bits.deBruijn64tab", laid_math_bits_deBruijn64tab), ("internal/strconv.uint64pow10", laid_internal_strconv_uint64pow10), ("unicode/utf8.acceptRanges", laid_unicode_utf8_acceptRanges), ("jobshell/source.operators", laid_jobshell_source_operators), ("unicode/utf8.first", laid_unicode_utf8_first)] }
def HeredocTabsSaid : Prop := heredocTabsRow.holds Tryz.pinned (OpenSpec.ofChange heredocTabsSpec)

/-- ITS FALSE NEIGHBOUR: 'it returns false'. Refute it at one input. -/
def heredocTabsWrong : ChangeSpec := { name := "heredocTabs", fn := fun _ => fun
  | [d1, d2] => { results := [.lit (.bool false)], args := [d1, d2] }
  | _ => none }
def HeredocTabsWrongFalsely : Prop := heredocTabsRow.holds Tryz.pinned (OpenSpec.ofChange heredocTabsWrong)

/-- 'jobshelllaw12.SimpleAssigns': WHATEVER THE INPUT: true; the input reads as it did. -/
def simpleAssignsSpec : ChangeSpec := { name := "simpleAssigns", fn := fun _ => fun
  | [d] => { results := [.lit (.bool true)], args := [d] }
  | _ => none }
def simpleAssignsRow : OpenClaim := { program := "yticehbhedoploaagreatdoor", sum := "81ac95da9e1fd1e10c4ac14e5822f23f605d10177c37322776b6d63f3c534248", func := "jobshell/jobshelllaw12.SimpleAssigns", spec := "simpleAssigns", inPlace := ["internal/bytealg.IndexByteString", "internal/bytealg.IndexString", "internal/abi.NoEscape"], unfollowed := true, recurses := true, named := ["unicode/utf8.first", "unicode/utf8.acceptRanges", "internal/bytealg.MaxLen", "jobshell/source.operators"], apart := false, laid := [("unicode/utf8.acceptRanges", laid_unicode_utf8_acceptRanges), ("jobshell/source.operators", laid_jobshell_source_operators), ("unicode/utf8.first", laid_unicode_utf8_first)] }
def SimpleAssignsSaid : Prop := simpleAssignsRow.holds Tryz.pinned (OpenSpec.ofChange simpleAssignsSpec)

/-- ITS FALSE NEIGHBOUR: 'it returns false'. Refute it at one input. -/
def simpleAssignsWrong : ChangeSpec := { name := "simpleAssigns", fn := fun _ => fun
  | [d] => { results := [.lit (.bool false)], args := [d] }
  | _ => none }
def SimpleAssignsWrongFalsely : Prop := simpleAssignsRow.holds Tryz.pinned (OpenSpec.ofChange simpleAssignsWrong)

/- THE SECOND FORM. 'bulk': how many values and letters a reading holds, each counted each time it is reached (what is shared counts as often as it is met; a slice's spare places count too). A statement '..UptoSaid' is the law's where the arguments, and the package variables that the reading takes, are together of bulk at most 1048576: NARROWER than '..Said'. Prove '..Said' where nothing that the law and all that it calls make is longer than what came in: it says more and counts as full. Else prove '..UptoSaid'. A law counts once. -/
mutual
def uptoBulk {H : Type} : DataW H → Nat
  | .lit (.string bytes) => bytes.length + 1
  | .lit _ => 1
  | .nil => 1
  | .ptr d => uptoBulk d + 1
  | .slice elems spare => uptoBulkAll elems + uptoBulkAll spare + 1
  | .agg parts => uptoBulkAll parts + 1
  | .iface _ d => uptoBulk d + 1
  | .map entries => uptoBulkEntries entries + 1
  | .held _ => 1
def uptoBulkAll {H : Type} : List (DataW H) → Nat
  | [] => 0
  | d :: r => uptoBulk d + uptoBulkAll r
def uptoBulkEntries {H : Type} : List (Lit × DataW H) → Nat
  | [] => 0
  | x :: r => uptoBulkEntry x + uptoBulkEntries r
def uptoBulkEntry {H : Type} : Lit × DataW H → Nat
  | (.string bytes, d) => bytes.length + uptoBulk d + 1
  | (_, d) => uptoBulk d + 1
 end
def uptoSmall : (H : Type) → List (DataW H) → Bool := fun _ ds => decide (uptoBulkAll ds ≤ 1048576)
def OpenSpec.upto (s : _root_.Go.ChangeSpec) : _root_.Go.OpenSpec := { _root_.Go.OpenSpec.ofChange s with cond := some uptoSmall }

/-- 'jobshelllaw09.AliasValids', WHERE WHAT IT READS IS OF BULK AT MOST 1048576: true; the input reads as it did. -/
def aliasValidsUptoRow : OpenClaim := { program := "yticehbhedoploaagreatdoor", sum := "81ac95da9e1fd1e10c4ac14e5822f23f605d10177c37322776b6d63f3c534248", func := "jobshell/jobshelllaw09.AliasValids", spec := "aliasValids", inPlace := ["internal/bytealg.IndexByteString", "internal/bytealg.IndexString", "slices.overlaps[jobshell/api.Alias]", "internal/abi.NoEscape"], unfollowed := true, recurses := true, named := ["unicode/utf8.first", "unicode/utf8.acceptRanges", "jobshell/source.operators", "internal/bytealg.MaxLen"], apart := false, laid := [("unicode/utf8.acceptRanges", laid_unicode_utf8_acceptRanges), ("jobshell/source.operators", laid_jobshell_source_operators), ("unicode/utf8.first", laid_unicode_utf8_first)], narrowed := true }
def AliasValidsUptoSaid : Prop := aliasValidsUptoRow.holds Tryz.pinned (OpenSpec.upto aliasValidsSpec)

/-- 'jobshelllaw09.AliasSets', WHERE WHAT IT READS IS OF BULK AT MOST 1048576: true; the input reads as it did. -/
def aliasSetsUptoRow : OpenClaim := { program := "yticehbhedoploaagreatdoor", sum := "81ac95da9e1fd1e10c4ac14e5822f23f605d10177c37322776b6d63f3c534248", func := "jobshell/jobshelllaw09.AliasSets", spec := "aliasSets", inPlace := ["internal/bytealg.IndexByteString", "internal/bytealg.IndexString", "slices.overlaps[jobshell/api.Alias]", "internal/abi.NoEscape"], unfollowed := true, recurses := true, named := ["unicode/utf8.first", "unicode/utf8.acceptRanges", "jobshell/source.operators", "internal/bytealg.MaxLen"], apart := false, laid := [("unicode/utf8.acceptRanges", laid_unicode_utf8_acceptRanges), ("jobshell/source.operators", laid_jobshell_source_operators), ("unicode/utf8.first", laid_unicode_utf8_first)], narrowed := true }
def AliasSetsUptoSaid : Prop := aliasSetsUptoRow.holds Tryz.pinned (OpenSpec.upto aliasSetsSpec)

/-- 'jobshelllaw09.AliasUnsets', WHERE WHAT IT READS IS OF BULK AT MOST 1048576: true; the input reads as it did. -/
def aliasUnsetsUptoRow : OpenClaim := { program := "yticehbhedoploaagreatdoor", sum := "81ac95da9e1fd1e10c4ac14e5822f23f605d10177c37322776b6d63f3c534248", func := "jobshell/jobshelllaw09.AliasUnsets", spec := "aliasUnsets", inPlace := ["internal/bytealg.IndexByteString", "internal/bytealg.IndexString", "slices.overlaps[jobshell/api.Alias]", "internal/abi.NoEscape"], unfollowed := true, recurses := true, named := ["unicode/utf8.first", "unicode/utf8.acceptRanges", "jobshell/source.operators", "internal/bytealg.MaxLen"], apart := false, laid := [("unicode/utf8.acceptRanges", laid_unicode_utf8_acceptRanges), ("jobshell/source.operators", laid_jobshell_source_operators), ("unicode/utf8.first", laid_unicode_utf8_first)], narrowed := true }
def AliasUnsetsUptoSaid : Prop := aliasUnsetsUptoRow.holds Tryz.pinned (OpenSpec.upto aliasUnsetsSpec)

/-- 'jobshelllaw09.AliasExpands', WHERE WHAT IT READS IS OF BULK AT MOST 1048576: true; the input reads as it did. -/
def aliasExpandsUptoRow : OpenClaim := { program := "yticehbhedoploaagreatdoor", sum := "81ac95da9e1fd1e10c4ac14e5822f23f605d10177c37322776b6d63f3c534248", func := "jobshell/jobshelllaw09.AliasExpands", spec := "aliasExpands", inPlace := ["internal/bytealg.IndexByteString", "internal/bytealg.IndexString", "slices.overlaps[jobshell/api.Alias]", "internal/abi.NoEscape"], unfollowed := true, recurses := true, named := ["unicode/utf8.first", "unicode/utf8.acceptRanges", "jobshell/source.operators", "internal/bytealg.MaxLen"], apart := false, laid := [("unicode/utf8.acceptRanges", laid_unicode_utf8_acceptRanges), ("jobshell/source.operators", laid_jobshell_source_operators), ("unicode/utf8.first", laid_unicode_utf8_first)], narrowed := true }
def AliasExpandsUptoSaid : Prop := aliasExpandsUptoRow.holds Tryz.pinned (OpenSpec.upto aliasExpandsSpec)

/-- 'jobshelllaw09.AliasNone', WHERE WHAT IT READS IS OF BULK AT MOST 1048576: true; the input reads as it did. -/
def aliasNoneUptoRow : OpenClaim := { program := "yticehbhedoploaagreatdoor", sum := "81ac95da9e1fd1e10c4ac14e5822f23f605d10177c37322776b6d63f3c534248", func := "jobshell/jobshelllaw09.AliasNone", spec := "aliasNone", inPlace := ["internal/bytealg.IndexByteString", "internal/bytealg.IndexString", "slices.overlaps[jobshell/api.Alias]", "internal/abi.NoEscape"], unfollowed := true, recurses := true, named := ["unicode/utf8.first", "unicode/utf8.acceptRanges", "jobshell/source.operators", "internal/bytealg.MaxLen"], apart := false, laid := [("unicode/utf8.acceptRanges", laid_unicode_utf8_acceptRanges), ("jobshell/source.operators", laid_jobshell_source_operators), ("unicode/utf8.first", laid_unicode_utf8_first)], narrowed := true }
def AliasNoneUptoSaid : Prop := aliasNoneUptoRow.holds Tryz.pinned (OpenSpec.upto aliasNoneSpec)

/-- 'jobshelllaw09.AliasOne', WHERE WHAT IT READS IS OF BULK AT MOST 1048576: true; the input reads as it did. -/
def aliasOneUptoRow : OpenClaim := { program := "yticehbhedoploaagreatdoor", sum := "81ac95da9e1fd1e10c4ac14e5822f23f605d10177c37322776b6d63f3c534248", func := "jobshell/jobshelllaw09.AliasOne", spec := "aliasOne", inPlace := ["internal/bytealg.IndexByteString", "internal/bytealg.IndexString", "slices.overlaps[jobshell/api.Alias]", "internal/abi.NoEscape"], unfollowed := true, recurses := true, named := ["unicode/utf8.first", "unicode/utf8.acceptRanges", "jobshell/source.operators", "internal/bytealg.MaxLen"], apart := false, laid := [("unicode/utf8.acceptRanges", laid_unicode_utf8_acceptRanges), ("jobshell/source.operators", laid_jobshell_source_operators), ("unicode/utf8.first", laid_unicode_utf8_first)], narrowed := true }
def AliasOneUptoSaid : Prop := aliasOneUptoRow.holds Tryz.pinned (OpenSpec.upto aliasOneSpec)

/-- 'jobshelllaw09.AliasList', WHERE WHAT IT READS IS OF BULK AT MOST 1048576: true; the input reads as it did. -/
def aliasListUptoRow : OpenClaim := { program := "yticehbhedoploaagreatdoor", sum := "81ac95da9e1fd1e10c4ac14e5822f23f605d10177c37322776b6d63f3c534248", func := "jobshell/jobshelllaw09.AliasList", spec := "aliasList", inPlace := ["internal/bytealg.IndexByteString", "internal/bytealg.IndexString", "slices.overlaps[jobshell/api.Alias]", "internal/abi.NoEscape"], unfollowed := true, recurses := true, named := ["unicode/utf8.first", "unicode/utf8.acceptRanges", "jobshell/source.operators", "internal/bytealg.MaxLen"], apart := false, laid := [("unicode/utf8.acceptRanges", laid_unicode_utf8_acceptRanges), ("jobshell/source.operators", laid_jobshell_source_operators), ("unicode/utf8.first", laid_unicode_utf8_first)], narrowed := true }
def AliasListUptoSaid : Prop := aliasListUptoRow.holds Tryz.pinned (OpenSpec.upto aliasListSpec)

/-- 'jobshelllaw10.HeredocStrips', WHERE WHAT IT READS IS OF BULK AT MOST 1048576: true; the input reads as it did. -/
def heredocStripsUptoRow : OpenClaim := { program := "yticehbhedoploaagreatdoor", sum := "81ac95da9e1fd1e10c4ac14e5822f23f605d10177c37322776b6d63f3c534248", func := "jobshell/jobshelllaw10.HeredocStrips", spec := "heredocStrips", inPlace := ["internal/bytealg.IndexByteString", "internal/bytealg.IndexString", "internal/abi.NoEscape"], unfollowed := true, recurses := true, named := ["unicode/utf8.first", "unicode/utf8.acceptRanges", "jobshell/source.operators", "internal/bytealg.MaxLen", "internal/strconv.uint64pow10", "math/bits.deBruijn32tab", "math/bits.deBruijn64tab"], apart := false, laid := [("math/bits.deBruijn32tab", laid_math_bits_deBruijn32tab), ("math/bits.deBruijn64tab", laid_math_bits_deBruijn64tab), ("internal/strconv.uint64pow10", laid_internal_strconv_uint64pow10), ("unicode/utf8.acceptRanges", laid_unicode_utf8_acceptRanges), ("jobshell/source.operators", laid_jobshell_source_operators), ("unicode/utf8.first", laid_unicode_utf8_first)], narrowed := true }
def HeredocStripsUptoSaid : Prop := heredocStripsUptoRow.holds Tryz.pinned (OpenSpec.upto heredocStripsSpec)

/-- 'jobshelllaw10.HeredocDelimiters', WHERE WHAT IT READS IS OF BULK AT MOST 1048576: true; the input reads as it did. -/
def heredocDelimitersUptoRow : OpenClaim := { program := "yticehbhedoploaagreatdoor", sum := "81ac95da9e1fd1e10c4ac14e5822f23f605d10177c37322776b6d63f3c534248", func := "jobshell/jobshelllaw10.HeredocDelimiters", spec := "heredocDelimiters", inPlace := ["internal/bytealg.IndexByteString", "internal/bytealg.IndexString", "internal/abi.NoEscape"], unfollowed := true, recurses := true, named := ["unicode/utf8.first", "unicode/utf8.acceptRanges", "jobshell/source.operators", "internal/bytealg.MaxLen", "internal/strconv.uint64pow10", "math/bits.deBruijn32tab", "math/bits.deBruijn64tab"], apart := false, laid := [("math/bits.deBruijn32tab", laid_math_bits_deBruijn32tab), ("math/bits.deBruijn64tab", laid_math_bits_deBruijn64tab), ("internal/strconv.uint64pow10", laid_internal_strconv_uint64pow10), ("unicode/utf8.acceptRanges", laid_unicode_utf8_acceptRanges), ("jobshell/source.operators", laid_jobshell_source_operators), ("unicode/utf8.first", laid_unicode_utf8_first)], narrowed := true }
def HeredocDelimitersUptoSaid : Prop := heredocDelimitersUptoRow.holds Tryz.pinned (OpenSpec.upto heredocDelimitersSpec)

/-- 'jobshelllaw10.HeredocRounds', WHERE WHAT IT READS IS OF BULK AT MOST 1048576: true; the input reads as it did. -/
def heredocRoundsUptoRow : OpenClaim := { program := "yticehbhedoploaagreatdoor", sum := "81ac95da9e1fd1e10c4ac14e5822f23f605d10177c37322776b6d63f3c534248", func := "jobshell/jobshelllaw10.HeredocRounds", spec := "heredocRounds", inPlace := ["internal/bytealg.IndexByteString", "internal/bytealg.IndexString", "internal/abi.NoEscape"], unfollowed := true, recurses := true, named := ["unicode/utf8.first", "unicode/utf8.acceptRanges", "jobshell/source.operators", "internal/bytealg.MaxLen", "internal/strconv.uint64pow10", "math/bits.deBruijn32tab", "math/bits.deBruijn64tab"], apart := false, laid := [("math/bits.deBruijn32tab", laid_math_bits_deBruijn32tab), ("math/bits.deBruijn64tab", laid_math_bits_deBruijn64tab), ("internal/strconv.uint64pow10", laid_internal_strconv_uint64pow10), ("unicode/utf8.acceptRanges", laid_unicode_utf8_acceptRanges), ("jobshell/source.operators", laid_jobshell_source_operators), ("unicode/utf8.first", laid_unicode_utf8_first)], narrowed := true }
def HeredocRoundsUptoSaid : Prop := heredocRoundsUptoRow.holds Tryz.pinned (OpenSpec.upto heredocRoundsSpec)

/-- 'jobshelllaw10.HeredocTabs', WHERE WHAT IT READS IS OF BULK AT MOST 1048576: true; the input reads as it did. -/
def heredocTabsUptoRow : OpenClaim := { program := "yticehbhedoploaagreatdoor", sum := "81ac95da9e1fd1e10c4ac14e5822f23f605d10177c37322776b6d63f3c534248", func := "jobshell/jobshelllaw10.HeredocTabs", spec := "heredocTabs", inPlace := ["internal/bytealg.IndexByteString", "internal/bytealg.IndexString", "internal/abi.NoEscape"], unfollowed := true, recurses := true, named := ["unicode/utf8.first", "unicode/utf8.acceptRanges", "jobshell/source.operators", "internal/bytealg.MaxLen", "internal/strconv.uint64pow10", "math/bits.deBruijn32tab", "math/bits.deBruijn64tab"], apart := false, laid := [("math/bits.deBruijn32tab", laid_math_bits_deBruijn32tab), ("math/bits.deBruijn64tab", laid_math_bits_deBruijn64tab), ("internal/strconv.uint64pow10", laid_internal_strconv_uint64pow10), ("unicode/utf8.acceptRanges", laid_unicode_utf8_acceptRanges), ("jobshell/source.operators", laid_jobshell_source_operators), ("unicode/utf8.first", laid_unicode_utf8_first)], narrowed := true }
def HeredocTabsUptoSaid : Prop := heredocTabsUptoRow.holds Tryz.pinned (OpenSpec.upto heredocTabsSpec)

/-- 'jobshelllaw12.SimpleAssigns', WHERE WHAT IT READS IS OF BULK AT MOST 1048576: true; the input reads as it did. -/
def simpleAssignsUptoRow : OpenClaim := { program := "yticehbhedoploaagreatdoor", sum := "81ac95da9e1fd1e10c4ac14e5822f23f605d10177c37322776b6d63f3c534248", func := "jobshell/jobshelllaw12.SimpleAssigns", spec := "simpleAssigns", inPlace := ["internal/bytealg.IndexByteString", "internal/bytealg.IndexString", "internal/abi.NoEscape"], unfollowed := true, recurses := true, named := ["unicode/utf8.first", "unicode/utf8.acceptRanges", "internal/bytealg.MaxLen", "jobshell/source.operators"], apart := false, laid := [("unicode/utf8.acceptRanges", laid_unicode_utf8_acceptRanges), ("jobshell/source.operators", laid_jobshell_source_operators), ("unicode/utf8.first", laid_unicode_utf8_first)], narrowed := true }
def SimpleAssignsUptoSaid : Prop := simpleAssignsUptoRow.holds Tryz.pinned (OpenSpec.upto simpleAssignsSpec)

end Rows
end Go.Proofs.YticehbhedoploaaGreatDoor
