/-
  NARROWER THAN 'FOR EVERY INPUT', by the rows' own cells (each row's printed sentence says how): ArithShows: loops, laid · ArithValid: loops, laid · ArithSame: loops, laid · ArithBack: loops, laid · ArithAgain: laid · ArithParens: laid.
  DERIVED. THE GIVEN ROWS OF THIS SEAT. 6 by the template 'for every input the law returns true; each argument reads behind the call as it read before'; 0 by the template 'total and deterministic' (their statements: YtbiiempgefjkiaaDoorTotals.lean).
  GIVEN WITH THE SEED: the statements are not yours to turn. If you find one false, say at which input.
  Laid BY PROGRAM, IN A SANDBOX (cutbox-rows.mjs): the forced cells as the released guide's own fill.sh prints them over the translation 23361e20c19060b9… (all of the seat's roots in one cut). By AI agents, Wed Nov 11 2026. No macro, syntax, notation, axiom, sorry.
-/
import Derived.Test.YtbiiempgefjkiaaDoorChecked
import GoSem.Claim
import GoSem.ClaimJoined
import GoSem.ClaimMapViews
import Derived.JoinedTies
import Derived.KernelRfl
namespace Go.Proofs.YtbiiempgefjkiaaDoor
/- THE CELL 'sum', in the pinned program and in every row, IS THE sha256 OF THE DUMP (.gsa) THAT YtbiiempgefjkiaaDoorProg.lean LOADS. Nothing in Lean hashes anything: it is a label: what it is worth is what the hold of that sum in a sandbox is worth. -/
noncomputable def Tryd.pinned : Pinned := { name := "ytbiiempgefjkiaadoor", sum := "23361e20c19060b98c4d89e7c3f5e14ab93dad207b524fbb63ba15e35a238368", checked := Tryd.checked }
namespace Rows
def none {H : Type} : Left H := { results := [], args := [] }

/- WHAT THE LISTED PACKAGE-LEVEL VARIABLES READ AS WHEN THE CALL BEGINS. Each datum BY PROGRAM (the guide's laid-datum.mjs) off the statement by which the dump's own 'gosem.cut.vars' lays the variable. In a bare row this is a premise. The card (YtbiiempgefjkiaaDoorCards.lean) ties it to the program's text. -/
def laid_math_bits_deBruijn32tab {H : Type} : DataW H := .agg [.lit (.int .u8 0), .lit (.int .u8 1), .lit (.int .u8 28), .lit (.int .u8 2), .lit (.int .u8 29), .lit (.int .u8 14), .lit (.int .u8 24), .lit (.int .u8 3), .lit (.int .u8 30), .lit (.int .u8 22), .lit (.int .u8 20), .lit (.int .u8 15), .lit (.int .u8 25), .lit (.int .u8 17), .lit (.int .u8 4), .lit (.int .u8 8), .lit (.int .u8 31), .lit (.int .u8 27), .lit (.int .u8 13), .lit (.int .u8 23), .lit (.int .u8 21), .lit (.int .u8 19), .lit (.int .u8 16), .lit (.int .u8 7), .lit (.int .u8 26), .lit (.int .u8 12), .lit (.int .u8 18), .lit (.int .u8 6), .lit (.int .u8 11), .lit (.int .u8 5), .lit (.int .u8 10), .lit (.int .u8 9)]
def laid_math_bits_deBruijn64tab {H : Type} : DataW H := .agg [.lit (.int .u8 0), .lit (.int .u8 1), .lit (.int .u8 56), .lit (.int .u8 2), .lit (.int .u8 57), .lit (.int .u8 49), .lit (.int .u8 28), .lit (.int .u8 3), .lit (.int .u8 61), .lit (.int .u8 58), .lit (.int .u8 42), .lit (.int .u8 50), .lit (.int .u8 38), .lit (.int .u8 29), .lit (.int .u8 17), .lit (.int .u8 4), .lit (.int .u8 62), .lit (.int .u8 47), .lit (.int .u8 59), .lit (.int .u8 36), .lit (.int .u8 45), .lit (.int .u8 43), .lit (.int .u8 51), .lit (.int .u8 22), .lit (.int .u8 53), .lit (.int .u8 39), .lit (.int .u8 33), .lit (.int .u8 30), .lit (.int .u8 24), .lit (.int .u8 18), .lit (.int .u8 12), .lit (.int .u8 5), .lit (.int .u8 63), .lit (.int .u8 55), .lit (.int .u8 48), .lit (.int .u8 27), .lit (.int .u8 60), .lit (.int .u8 41), .lit (.int .u8 37), .lit (.int .u8 16), .lit (.int .u8 46), .lit (.int .u8 35), .lit (.int .u8 44), .lit (.int .u8 21), .lit (.int .u8 52), .lit (.int .u8 32), .lit (.int .u8 23), .lit (.int .u8 11), .lit (.int .u8 54), .lit (.int .u8 26), .lit (.int .u8 40), .lit (.int .u8 15), .lit (.int .u8 34), .lit (.int .u8 20), .lit (.int .u8 31), .lit (.int .u8 10), .lit (.int .u8 25), .lit (.int .u8 14), .lit (.int .u8 19), .lit (.int .u8 9), .lit (.int .u8 13), .lit (.int .u8 8), .lit (.int .u8 7), .lit (.int .u8 6)]
def laid_internal_strconv_uint64pow10 {H : Type} : DataW H := .agg [.lit (.int .u64 1), .lit (.int .u64 10), .lit (.int .u64 100), .lit (.int .u64 1000), .lit (.int .u64 10000), .lit (.int .u64 100000), .lit (.int .u64 1000000), .lit (.int .u64 10000000), .lit (.int .u64 100000000), .lit (.int .u64 1000000000), .lit (.int .u64 10000000000), .lit (.int .u64 100000000000), .lit (.int .u64 1000000000000), .lit (.int .u64 10000000000000), .lit (.int .u64 100000000000000), .lit (.int .u64 1000000000000000), .lit (.int .u64 10000000000000000), .lit (.int .u64 100000000000000000), .lit (.int .u64 1000000000000000000), .lit (.int .u64 10000000000000000000)]
def laid_jobshell_arith_binaries {H : Type} : DataW H := .agg [.agg [.lit (.string [124, 124]), .lit (.int .i64 24), .lit (.int .i64 3), .lit (.bool false)], .agg [.lit (.string [38, 38]), .lit (.int .i64 23), .lit (.int .i64 4), .lit (.bool false)], .agg [.lit (.string [124]), .lit (.int .i64 22), .lit (.int .i64 5), .lit (.bool true)], .agg [.lit (.string [94]), .lit (.int .i64 21), .lit (.int .i64 6), .lit (.bool true)], .agg [.lit (.string [38]), .lit (.int .i64 20), .lit (.int .i64 7), .lit (.bool true)], .agg [.lit (.string [61, 61]), .lit (.int .i64 18), .lit (.int .i64 8), .lit (.bool false)], .agg [.lit (.string [33, 61]), .lit (.int .i64 19), .lit (.int .i64 8), .lit (.bool false)], .agg [.lit (.string [60]), .lit (.int .i64 14), .lit (.int .i64 9), .lit (.bool false)], .agg [.lit (.string [62]), .lit (.int .i64 15), .lit (.int .i64 9), .lit (.bool false)], .agg [.lit (.string [60, 61]), .lit (.int .i64 16), .lit (.int .i64 9), .lit (.bool false)], .agg [.lit (.string [62, 61]), .lit (.int .i64 17), .lit (.int .i64 9), .lit (.bool false)], .agg [.lit (.string [60, 60]), .lit (.int .i64 12), .lit (.int .i64 10), .lit (.bool true)], .agg [.lit (.string [62, 62]), .lit (.int .i64 13), .lit (.int .i64 10), .lit (.bool true)], .agg [.lit (.string [43]), .lit (.int .i64 10), .lit (.int .i64 11), .lit (.bool true)], .agg [.lit (.string [45]), .lit (.int .i64 11), .lit (.int .i64 11), .lit (.bool true)], .agg [.lit (.string [42]), .lit (.int .i64 7), .lit (.int .i64 12), .lit (.bool true)], .agg [.lit (.string [47]), .lit (.int .i64 8), .lit (.int .i64 12), .lit (.bool true)], .agg [.lit (.string [37]), .lit (.int .i64 9), .lit (.int .i64 12), .lit (.bool true)]]

/-- 'jobshelllaw05.ArithShows': WHATEVER THE INPUT: true; the input reads as it did. -/
def arithShowsSpec : ChangeSpec := { name := "arithShows", fn := fun _ => fun
  | [d] => { results := [.lit (.bool true)], args := [d] }
  | _ => none }
def arithShowsRow : OpenClaim := { program := "ytbiiempgefjkiaadoor", sum := "23361e20c19060b98c4d89e7c3f5e14ab93dad207b524fbb63ba15e35a238368", func := "jobshell/jobshelllaw05.ArithShows", spec := "arithShows", inPlace := ["internal/abi.NoEscape"], unfollowed := true, recurses := true, named := ["jobshell/arith.binaries", "internal/strconv.uint64pow10", "math/bits.deBruijn32tab", "math/bits.deBruijn64tab"], loops := true, apart := false, laid := [("math/bits.deBruijn32tab", laid_math_bits_deBruijn32tab), ("math/bits.deBruijn64tab", laid_math_bits_deBruijn64tab), ("internal/strconv.uint64pow10", laid_internal_strconv_uint64pow10), ("jobshell/arith.binaries", laid_jobshell_arith_binaries)] }
def ArithShowsSaid : Prop := arithShowsRow.holds Tryd.pinned (OpenSpec.ofChange arithShowsSpec)

/-- ITS FALSE NEIGHBOUR: 'it returns false'. Refute it at one input. -/
def arithShowsWrong : ChangeSpec := { name := "arithShows", fn := fun _ => fun
  | [d] => { results := [.lit (.bool false)], args := [d] }
  | _ => none }
def ArithShowsWrongFalsely : Prop := arithShowsRow.holds Tryd.pinned (OpenSpec.ofChange arithShowsWrong)

/-- 'jobshelllaw05.ArithValid': WHATEVER THE INPUT: true; the input reads as it did. -/
def arithValidSpec : ChangeSpec := { name := "arithValid", fn := fun _ => fun
  | [d] => { results := [.lit (.bool true)], args := [d] }
  | _ => none }
def arithValidRow : OpenClaim := { program := "ytbiiempgefjkiaadoor", sum := "23361e20c19060b98c4d89e7c3f5e14ab93dad207b524fbb63ba15e35a238368", func := "jobshell/jobshelllaw05.ArithValid", spec := "arithValid", inPlace := ["internal/abi.NoEscape"], unfollowed := true, recurses := true, named := ["jobshell/arith.binaries", "internal/strconv.uint64pow10", "math/bits.deBruijn32tab", "math/bits.deBruijn64tab"], loops := true, apart := false, laid := [("math/bits.deBruijn32tab", laid_math_bits_deBruijn32tab), ("math/bits.deBruijn64tab", laid_math_bits_deBruijn64tab), ("internal/strconv.uint64pow10", laid_internal_strconv_uint64pow10), ("jobshell/arith.binaries", laid_jobshell_arith_binaries)] }
def ArithValidSaid : Prop := arithValidRow.holds Tryd.pinned (OpenSpec.ofChange arithValidSpec)

/-- ITS FALSE NEIGHBOUR: 'it returns false'. Refute it at one input. -/
def arithValidWrong : ChangeSpec := { name := "arithValid", fn := fun _ => fun
  | [d] => { results := [.lit (.bool false)], args := [d] }
  | _ => none }
def ArithValidWrongFalsely : Prop := arithValidRow.holds Tryd.pinned (OpenSpec.ofChange arithValidWrong)

/-- 'jobshelllaw05.ArithSame': WHATEVER THE INPUT: true; the input reads as it did. -/
def arithSameSpec : ChangeSpec := { name := "arithSame", fn := fun _ => fun
  | [d1, d2] => { results := [.lit (.bool true)], args := [d1, d2] }
  | _ => none }
def arithSameRow : OpenClaim := { program := "ytbiiempgefjkiaadoor", sum := "23361e20c19060b98c4d89e7c3f5e14ab93dad207b524fbb63ba15e35a238368", func := "jobshell/jobshelllaw05.ArithSame", spec := "arithSame", inPlace := ["internal/abi.NoEscape"], unfollowed := true, recurses := true, named := ["jobshell/arith.binaries", "internal/strconv.uint64pow10", "math/bits.deBruijn32tab", "math/bits.deBruijn64tab"], loops := true, apart := false, laid := [("math/bits.deBruijn32tab", laid_math_bits_deBruijn32tab), ("math/bits.deBruijn64tab", laid_math_bits_deBruijn64tab), ("internal/strconv.uint64pow10", laid_internal_strconv_uint64pow10), ("jobshell/arith.binaries", laid_jobshell_arith_binaries)] }
def ArithSameSaid : Prop := arithSameRow.holds Tryd.pinned (OpenSpec.ofChange arithSameSpec)

/-- ITS FALSE NEIGHBOUR: 'it returns false'. Refute it at one input. -/
def arithSameWrong : ChangeSpec := { name := "arithSame", fn := fun _ => fun
  | [d1, d2] => { results := [.lit (.bool false)], args := [d1, d2] }
  | _ => none }
def ArithSameWrongFalsely : Prop := arithSameRow.holds Tryd.pinned (OpenSpec.ofChange arithSameWrong)

/-- 'jobshelllaw05.ArithBack': WHATEVER THE INPUT: true; the input reads as it did. -/
def arithBackSpec : ChangeSpec := { name := "arithBack", fn := fun _ => fun
  | [d] => { results := [.lit (.bool true)], args := [d] }
  | _ => none }
def arithBackRow : OpenClaim := { program := "ytbiiempgefjkiaadoor", sum := "23361e20c19060b98c4d89e7c3f5e14ab93dad207b524fbb63ba15e35a238368", func := "jobshell/jobshelllaw05.ArithBack", spec := "arithBack", inPlace := ["internal/abi.NoEscape"], unfollowed := true, recurses := true, named := ["jobshell/arith.binaries", "internal/strconv.uint64pow10", "math/bits.deBruijn32tab", "math/bits.deBruijn64tab"], loops := true, apart := false, laid := [("math/bits.deBruijn32tab", laid_math_bits_deBruijn32tab), ("math/bits.deBruijn64tab", laid_math_bits_deBruijn64tab), ("internal/strconv.uint64pow10", laid_internal_strconv_uint64pow10), ("jobshell/arith.binaries", laid_jobshell_arith_binaries)] }
def ArithBackSaid : Prop := arithBackRow.holds Tryd.pinned (OpenSpec.ofChange arithBackSpec)

/-- ITS FALSE NEIGHBOUR: 'it returns false'. Refute it at one input. -/
def arithBackWrong : ChangeSpec := { name := "arithBack", fn := fun _ => fun
  | [d] => { results := [.lit (.bool false)], args := [d] }
  | _ => none }
def ArithBackWrongFalsely : Prop := arithBackRow.holds Tryd.pinned (OpenSpec.ofChange arithBackWrong)

/-- 'jobshelllaw05.ArithAgain': WHATEVER THE INPUT: true; the input reads as it did. -/
def arithAgainSpec : ChangeSpec := { name := "arithAgain", fn := fun _ => fun
  | [d] => { results := [.lit (.bool true)], args := [d] }
  | _ => none }
def arithAgainRow : OpenClaim := { program := "ytbiiempgefjkiaadoor", sum := "23361e20c19060b98c4d89e7c3f5e14ab93dad207b524fbb63ba15e35a238368", func := "jobshell/jobshelllaw05.ArithAgain", spec := "arithAgain", inPlace := ["internal/abi.NoEscape"], unfollowed := true, recurses := true, named := ["jobshell/arith.binaries", "internal/strconv.uint64pow10", "math/bits.deBruijn32tab", "math/bits.deBruijn64tab"], apart := false, laid := [("math/bits.deBruijn32tab", laid_math_bits_deBruijn32tab), ("math/bits.deBruijn64tab", laid_math_bits_deBruijn64tab), ("internal/strconv.uint64pow10", laid_internal_strconv_uint64pow10), ("jobshell/arith.binaries", laid_jobshell_arith_binaries)] }
def ArithAgainSaid : Prop := arithAgainRow.holds Tryd.pinned (OpenSpec.ofChange arithAgainSpec)

/-- ITS FALSE NEIGHBOUR: 'it returns false'. Refute it at one input. -/
def arithAgainWrong : ChangeSpec := { name := "arithAgain", fn := fun _ => fun
  | [d] => { results := [.lit (.bool false)], args := [d] }
  | _ => none }
def ArithAgainWrongFalsely : Prop := arithAgainRow.holds Tryd.pinned (OpenSpec.ofChange arithAgainWrong)

/-- 'jobshelllaw05.ArithParens': WHATEVER THE INPUT: true; the input reads as it did. -/
def arithParensSpec : ChangeSpec := { name := "arithParens", fn := fun _ => fun
  | [d] => { results := [.lit (.bool true)], args := [d] }
  | _ => none }
def arithParensRow : OpenClaim := { program := "ytbiiempgefjkiaadoor", sum := "23361e20c19060b98c4d89e7c3f5e14ab93dad207b524fbb63ba15e35a238368", func := "jobshell/jobshelllaw05.ArithParens", spec := "arithParens", inPlace := ["internal/abi.NoEscape"], unfollowed := true, recurses := true, named := ["jobshell/arith.binaries", "internal/strconv.uint64pow10", "math/bits.deBruijn32tab", "math/bits.deBruijn64tab"], apart := false, laid := [("math/bits.deBruijn32tab", laid_math_bits_deBruijn32tab), ("math/bits.deBruijn64tab", laid_math_bits_deBruijn64tab), ("internal/strconv.uint64pow10", laid_internal_strconv_uint64pow10), ("jobshell/arith.binaries", laid_jobshell_arith_binaries)] }
def ArithParensSaid : Prop := arithParensRow.holds Tryd.pinned (OpenSpec.ofChange arithParensSpec)

/-- ITS FALSE NEIGHBOUR: 'it returns false'. Refute it at one input. -/
def arithParensWrong : ChangeSpec := { name := "arithParens", fn := fun _ => fun
  | [d] => { results := [.lit (.bool false)], args := [d] }
  | _ => none }
def ArithParensWrongFalsely : Prop := arithParensRow.holds Tryd.pinned (OpenSpec.ofChange arithParensWrong)

/- THE SECOND FORM. 'bulk': how many values and letters a reading holds, each counted each time it is reached (what is shared counts as often as it is met; a slice's spare places count too). A statement '..UptoSaid' is the law's where the arguments, and the package variables that the reading takes, are together of bulk at most 1048576: NARROWER than '..Said'. Prove '..Said' where nothing that the law and all that it calls make is longer than what came in: it says more and counts as full. Else prove '..UptoSaid'. A law counts once. -/
mutual
def uptoBulk {H : Type} : DataW H → Nat
  | .lit (.string bytes) => bytes.length + 1
  | .lit _ => 1
  | .nil => 1
  | .ptr d => uptoBulk d + 1
  | .slice elems spare => uptoBulkAll elems + uptoBulkAll spare + 1
  | .agg parts => uptoBulkAll parts + 1
  | .iface _ d => uptoBulk d + 1
  | .map entries => uptoBulkEntries entries + 1
  | .held _ => 1
def uptoBulkAll {H : Type} : List (DataW H) → Nat
  | [] => 0
  | d :: r => uptoBulk d + uptoBulkAll r
def uptoBulkEntries {H : Type} : List (Lit × DataW H) → Nat
  | [] => 0
  | x :: r => uptoBulkEntry x + uptoBulkEntries r
def uptoBulkEntry {H : Type} : Lit × DataW H → Nat
  | (.string bytes, d) => bytes.length + uptoBulk d + 1
  | (_, d) => uptoBulk d + 1
 end
def uptoSmall : (H : Type) → List (DataW H) → Bool := fun _ ds => decide (uptoBulkAll ds ≤ 1048576)
def OpenSpec.upto (s : _root_.Go.ChangeSpec) : _root_.Go.OpenSpec := { _root_.Go.OpenSpec.ofChange s with cond := some uptoSmall }

/-- 'jobshelllaw05.ArithShows', WHERE WHAT IT READS IS OF BULK AT MOST 1048576: true; the input reads as it did. -/
def arithShowsUptoRow : OpenClaim := { program := "ytbiiempgefjkiaadoor", sum := "23361e20c19060b98c4d89e7c3f5e14ab93dad207b524fbb63ba15e35a238368", func := "jobshell/jobshelllaw05.ArithShows", spec := "arithShows", inPlace := ["internal/abi.NoEscape"], unfollowed := true, recurses := true, named := ["jobshell/arith.binaries", "internal/strconv.uint64pow10", "math/bits.deBruijn32tab", "math/bits.deBruijn64tab"], loops := true, apart := false, laid := [("math/bits.deBruijn32tab", laid_math_bits_deBruijn32tab), ("math/bits.deBruijn64tab", laid_math_bits_deBruijn64tab), ("internal/strconv.uint64pow10", laid_internal_strconv_uint64pow10), ("jobshell/arith.binaries", laid_jobshell_arith_binaries)], narrowed := true }
def ArithShowsUptoSaid : Prop := arithShowsUptoRow.holds Tryd.pinned (OpenSpec.upto arithShowsSpec)

/-- 'jobshelllaw05.ArithValid', WHERE WHAT IT READS IS OF BULK AT MOST 1048576: true; the input reads as it did. -/
def arithValidUptoRow : OpenClaim := { program := "ytbiiempgefjkiaadoor", sum := "23361e20c19060b98c4d89e7c3f5e14ab93dad207b524fbb63ba15e35a238368", func := "jobshell/jobshelllaw05.ArithValid", spec := "arithValid", inPlace := ["internal/abi.NoEscape"], unfollowed := true, recurses := true, named := ["jobshell/arith.binaries", "internal/strconv.uint64pow10", "math/bits.deBruijn32tab", "math/bits.deBruijn64tab"], loops := true, apart := false, laid := [("math/bits.deBruijn32tab", laid_math_bits_deBruijn32tab), ("math/bits.deBruijn64tab", laid_math_bits_deBruijn64tab), ("internal/strconv.uint64pow10", laid_internal_strconv_uint64pow10), ("jobshell/arith.binaries", laid_jobshell_arith_binaries)], narrowed := true }
def ArithValidUptoSaid : Prop := arithValidUptoRow.holds Tryd.pinned (OpenSpec.upto arithValidSpec)

/-- 'jobshelllaw05.ArithSame', WHERE WHAT IT READS IS OF BULK AT MOST 1048576: true; the input reads as it did. -/
def arithSameUptoRow : OpenClaim := { program := "ytbiiempgefjkiaadoor", sum := "23361e20c19060b98c4d89e7c3f5e14ab93dad207b524fbb63ba15e35a238368", func := "jobshell/jobshelllaw05.ArithSame", spec := "arithSame", inPlace := ["internal/abi.NoEscape"], unfollowed := true, recurses := true, named := ["jobshell/arith.binaries", "internal/strconv.uint64pow10", "math/bits.deBruijn32tab", "math/bits.deBruijn64tab"], loops := true, apart := false, laid := [("math/bits.deBruijn32tab", laid_math_bits_deBruijn32tab), ("math/bits.deBruijn64tab", laid_math_bits_deBruijn64tab), ("internal/strconv.uint64pow10", laid_internal_strconv_uint64pow10), ("jobshell/arith.binaries", laid_jobshell_arith_binaries)], narrowed := true }
def ArithSameUptoSaid : Prop := arithSameUptoRow.holds Tryd.pinned (OpenSpec.upto arithSameSpec)

/-- 'jobshelllaw05.ArithBack', WHERE WHAT IT READS IS OF BULK AT MOST 1048576: true; the input reads as it did. -/
def arithBackUptoRow : OpenClaim := { program := "ytbiiempgefjkiaadoor", sum := "23361e20c19060b98c4d89e7c3f5e14ab93dad207b524fbb63ba15e35a238368", func := "jobshell/jobshelllaw05.ArithBack", spec := "arithBack", inPlace := ["internal/abi.NoEscape"], unfollowed := true, recurses := true, named := ["jobshell/arith.binaries", "internal/strconv.uint64pow10", "math/bits.deBruijn32tab", "math/bits.deBruijn64tab"], loops := true, apart := false, laid := [("math/bits.deBruijn32tab", laid_math_bits_deBruijn32tab), ("math/bits.deBruijn64tab", laid_math_bits_deBruijn64tab), ("internal/strconv.uint64pow10", laid_internal_strconv_uint64pow10), ("jobshell/arith.binaries", laid_jobshell_arith_binaries)], narrowed := true }
def ArithBackUptoSaid : Prop := arithBackUptoRow.holds Tryd.pinned (OpenSpec.upto arithBackSpec)

/-- 'jobshelllaw05.ArithAgain', WHERE WHAT IT READS IS OF BULK AT MOST 1048576: true; the input reads as it did. -/
def arithAgainUptoRow : OpenClaim := { program := "ytbiiempgefjkiaadoor", sum := "23361e20c19060b98c4d89e7c3f5e14ab93dad207b524fbb63ba15e35a238368", func := "jobshell/jobshelllaw05.ArithAgain", spec := "arithAgain", inPlace := ["internal/abi.NoEscape"], unfollowed := true, recurses := true, named := ["jobshell/arith.binaries", "internal/strconv.uint64pow10", "math/bits.deBruijn32tab", "math/bits.deBruijn64tab"], apart := false, laid := [("math/bits.deBruijn32tab", laid_math_bits_deBruijn32tab), ("math/bits.deBruijn64tab", laid_math_bits_deBruijn64tab), ("internal/strconv.uint64pow10", laid_internal_strconv_uint64pow10), ("jobshell/arith.binaries", laid_jobshell_arith_binaries)], narrowed := true }
def ArithAgainUptoSaid : Prop := arithAgainUptoRow.holds Tryd.pinned (OpenSpec.upto arithAgainSpec)

/-- 'jobshelllaw05.ArithParens', WHERE WHAT IT READS IS OF BULK AT MOST 1048576: true; the input reads as it did. -/
def arithParensUptoRow : OpenClaim := { program := "ytbiiempgefjkiaadoor", sum := "23361e20c19060b98c4d89e7c3f5e14ab93dad207b524fbb63ba15e35a238368", func := "jobshell/jobshelllaw05.ArithParens", spec := "arithParens", inPlace := ["internal/abi.NoEscape"], unfollowed := true, recurses := true, named := ["jobshell/arith.binaries", "internal/strconv.uint64pow10", "math/bits.deBruijn32tab", "math/bits.deBruijn64tab"], apart := false, laid := [("math/bits.deBruijn32tab", laid_math_bits_deBruijn32tab), ("math/bits.deBruijn64tab", laid_math_bits_deBruijn64tab), ("internal/strconv.uint64pow10", laid_internal_strconv_uint64pow10), ("jobshell/arith.binaries", laid_jobshell_arith_binaries)], narrowed := true }
def ArithParensUptoSaid : Prop := arithParensUptoRow.holds Tryd.pinned (OpenSpec.upto arithParensSpec)

end Rows
end Go.Proofs.YtbiiempgefjkiaaDoor
