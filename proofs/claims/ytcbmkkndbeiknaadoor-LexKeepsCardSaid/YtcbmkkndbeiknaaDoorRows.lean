/-
  NARROWER THAN 'FOR EVERY INPUT', by the rows' own cells (each row's printed sentence says how): TextDiffs: laid · LexScans: laid · LexTexts: laid · LexNames: laid · LexFormats: laid · LexKeeps: laid · LexJoins: laid · LexTwo: laid.
  DERIVED. THE GIVEN ROWS OF THIS SEAT. 8 by the template 'for every input the law returns true; each argument reads behind the call as it read before'; 0 by the template 'total and deterministic' (their statements: YtcbmkkndbeiknaaDoorTotals.lean).
  GIVEN WITH THE SEED: the statements are not yours to turn. If you find one false, say at which input.
  Laid BY PROGRAM, IN A SANDBOX (cutbox-rows.mjs): the forced cells as the released guide's own fill.sh prints them over the translation 2d42ebf6f1e7a559… (all of the seat's roots in one cut). By AI agents, Wed Nov 11 2026. No macro, syntax, notation, axiom, sorry.
-/
import Derived.Test.YtcbmkkndbeiknaaDoorChecked
import GoSem.PinnedTables
import GoSem.Claim
import GoSem.ClaimJoined
import GoSem.ClaimMapViews
import Derived.JoinedTies
import Derived.KernelRfl
namespace Go.Proofs.YtcbmkkndbeiknaaDoor
/- THE CELL 'sum', in the pinned program and in every row, IS THE sha256 OF THE DUMP (.gsa) THAT YtcbmkkndbeiknaaDoorProg.lean LOADS. Nothing in Lean hashes anything: it is a label: what it is worth is what the hold of that sum in a sandbox is worth. -/
noncomputable def Tryd.pinned : Pinned := { name := "ytcbmkkndbeiknaadoor", sum := "2d42ebf6f1e7a559e8253a1ea3505c854707cb581b3a1043fdcd1aefc66b69de", checked := Tryd.checked }
namespace Rows
def none {H : Type} : Left H := { results := [], args := [] }

/- WHAT THE LISTED PACKAGE-LEVEL VARIABLES READ AS WHEN THE CALL BEGINS. Each datum BY PROGRAM (the guide's laid-datum.mjs) off the statement by which the dump's own 'gosem.cut.vars' lays the variable. In a bare row this is a premise. The card (YtcbmkkndbeiknaaDoorCards.lean) ties it to the program's text. -/
def laid_math_bits_deBruijn32tab {H : Type} : DataW H := .agg [.lit (.int .u8 0), .lit (.int .u8 1), .lit (.int .u8 28), .lit (.int .u8 2), .lit (.int .u8 29), .lit (.int .u8 14), .lit (.int .u8 24), .lit (.int .u8 3), .lit (.int .u8 30), .lit (.int .u8 22), .lit (.int .u8 20), .lit (.int .u8 15), .lit (.int .u8 25), .lit (.int .u8 17), .lit (.int .u8 4), .lit (.int .u8 8), .lit (.int .u8 31), .lit (.int .u8 27), .lit (.int .u8 13), .lit (.int .u8 23), .lit (.int .u8 21), .lit (.int .u8 19), .lit (.int .u8 16), .lit (.int .u8 7), .lit (.int .u8 26), .lit (.int .u8 12), .lit (.int .u8 18), .lit (.int .u8 6), .lit (.int .u8 11), .lit (.int .u8 5), .lit (.int .u8 10), .lit (.int .u8 9)]
def laid_math_bits_deBruijn64tab {H : Type} : DataW H := .agg [.lit (.int .u8 0), .lit (.int .u8 1), .lit (.int .u8 56), .lit (.int .u8 2), .lit (.int .u8 57), .lit (.int .u8 49), .lit (.int .u8 28), .lit (.int .u8 3), .lit (.int .u8 61), .lit (.int .u8 58), .lit (.int .u8 42), .lit (.int .u8 50), .lit (.int .u8 38), .lit (.int .u8 29), .lit (.int .u8 17), .lit (.int .u8 4), .lit (.int .u8 62), .lit (.int .u8 47), .lit (.int .u8 59), .lit (.int .u8 36), .lit (.int .u8 45), .lit (.int .u8 43), .lit (.int .u8 51), .lit (.int .u8 22), .lit (.int .u8 53), .lit (.int .u8 39), .lit (.int .u8 33), .lit (.int .u8 30), .lit (.int .u8 24), .lit (.int .u8 18), .lit (.int .u8 12), .lit (.int .u8 5), .lit (.int .u8 63), .lit (.int .u8 55), .lit (.int .u8 48), .lit (.int .u8 27), .lit (.int .u8 60), .lit (.int .u8 41), .lit (.int .u8 37), .lit (.int .u8 16), .lit (.int .u8 46), .lit (.int .u8 35), .lit (.int .u8 44), .lit (.int .u8 21), .lit (.int .u8 52), .lit (.int .u8 32), .lit (.int .u8 23), .lit (.int .u8 11), .lit (.int .u8 54), .lit (.int .u8 26), .lit (.int .u8 40), .lit (.int .u8 15), .lit (.int .u8 34), .lit (.int .u8 20), .lit (.int .u8 31), .lit (.int .u8 10), .lit (.int .u8 25), .lit (.int .u8 14), .lit (.int .u8 19), .lit (.int .u8 9), .lit (.int .u8 13), .lit (.int .u8 8), .lit (.int .u8 7), .lit (.int .u8 6)]
def laid_internal_strconv_uint64pow10 {H : Type} : DataW H := .agg [.lit (.int .u64 1), .lit (.int .u64 10), .lit (.int .u64 100), .lit (.int .u64 1000), .lit (.int .u64 10000), .lit (.int .u64 100000), .lit (.int .u64 1000000), .lit (.int .u64 10000000), .lit (.int .u64 100000000), .lit (.int .u64 1000000000), .lit (.int .u64 10000000000), .lit (.int .u64 100000000000), .lit (.int .u64 1000000000000), .lit (.int .u64 10000000000000), .lit (.int .u64 100000000000000), .lit (.int .u64 1000000000000000), .lit (.int .u64 10000000000000000), .lit (.int .u64 100000000000000000), .lit (.int .u64 1000000000000000000), .lit (.int .u64 10000000000000000000)]
def laid_smocking_lex_keyWords {H : Type} : DataW H := .slice [.lit (.string [98, 114, 101, 97, 107]), .lit (.string [99, 97, 115, 101]), .lit (.string [99, 104, 97, 114]), .lit (.string [99, 111, 110, 115, 116]), .lit (.string [99, 111, 110, 116, 105, 110, 117, 101]), .lit (.string [100, 101, 102, 97, 117, 108, 116]), .lit (.string [100, 111]), .lit (.string [101, 108, 115, 101]), .lit (.string [101, 110, 117, 109]), .lit (.string [101, 120, 116, 101, 114, 110]), .lit (.string [102, 111, 114]), .lit (.string [103, 111, 116, 111]), .lit (.string [105, 102]), .lit (.string [105, 110, 116]), .lit (.string [108, 111, 110, 103]), .lit (.string [114, 101, 116, 117, 114, 110]), .lit (.string [115, 104, 111, 114, 116]), .lit (.string [115, 105, 103, 110, 101, 100]), .lit (.string [115, 105, 122, 101, 111, 102]), .lit (.string [115, 116, 97, 116, 105, 99]), .lit (.string [115, 116, 114, 117, 99, 116]), .lit (.string [115, 119, 105, 116, 99, 104]), .lit (.string [116, 121, 112, 101, 100, 101, 102]), .lit (.string [117, 110, 105, 111, 110]), .lit (.string [117, 110, 115, 105, 103, 110, 101, 100]), .lit (.string [118, 111, 105, 100]), .lit (.string [118, 111, 108, 97, 116, 105, 108, 101]), .lit (.string [119, 104, 105, 108, 101])] []
def laid_smocking_lex_signWords {H : Type} : DataW H := .slice [.lit (.string [46, 46, 46]), .lit (.string [60, 60, 61]), .lit (.string [62, 62, 61]), .lit (.string [60, 60]), .lit (.string [62, 62]), .lit (.string [60, 61]), .lit (.string [62, 61]), .lit (.string [61, 61]), .lit (.string [33, 61]), .lit (.string [38, 38]), .lit (.string [124, 124]), .lit (.string [43, 43]), .lit (.string [45, 45]), .lit (.string [43, 61]), .lit (.string [45, 61]), .lit (.string [42, 61]), .lit (.string [47, 61]), .lit (.string [37, 61]), .lit (.string [38, 61]), .lit (.string [124, 61]), .lit (.string [94, 61]), .lit (.string [45, 62]), .lit (.string [43]), .lit (.string [45]), .lit (.string [42]), .lit (.string [47]), .lit (.string [37]), .lit (.string [38]), .lit (.string [124]), .lit (.string [94]), .lit (.string [33]), .lit (.string [126]), .lit (.string [60]), .lit (.string [62]), .lit (.string [61]), .lit (.string [63]), .lit (.string [58]), .lit (.string [59]), .lit (.string [44]), .lit (.string [46]), .lit (.string [40]), .lit (.string [41]), .lit (.string [91]), .lit (.string [93]), .lit (.string [123]), .lit (.string [125]), .lit (.string [35])] []
def laid_unicode_utf8_acceptRanges {H : Type} : DataW H := .agg [.agg [.lit (.int .u8 128), .lit (.int .u8 191)], .agg [.lit (.int .u8 160), .lit (.int .u8 191)], .agg [.lit (.int .u8 128), .lit (.int .u8 159)], .agg [.lit (.int .u8 144), .lit (.int .u8 191)], .agg [.lit (.int .u8 128), .lit (.int .u8 143)], .agg [.lit (.int .u8 0), .lit (.int .u8 0)], .agg [.lit (.int .u8 0), .lit (.int .u8 0)], .agg [.lit (.int .u8 0), .lit (.int .u8 0)], .agg [.lit (.int .u8 0), .lit (.int .u8 0)], .agg [.lit (.int .u8 0), .lit (.int .u8 0)], .agg [.lit (.int .u8 0), .lit (.int .u8 0)], .agg [.lit (.int .u8 0), .lit (.int .u8 0)], .agg [.lit (.int .u8 0), .lit (.int .u8 0)], .agg [.lit (.int .u8 0), .lit (.int .u8 0)], .agg [.lit (.int .u8 0), .lit (.int .u8 0)], .agg [.lit (.int .u8 0), .lit (.int .u8 0)]]
/-- One of Go's own tables, pinned by name: the form's constant. -/
def laid_unicode_utf8_first : DataW Unit := Go.Pinned.utf8First

/-- 'smockinglaw01.TextDiffs': WHATEVER THE INPUT: true; the input reads as it did. -/
def textDiffsSpec : ChangeSpec := { name := "textDiffs", fn := fun _ => fun
  | [d1, d2, d3] => { results := [.lit (.bool true)], args := [d1, d2, d3] }
  | _ => none }
def textDiffsRow : OpenClaim := { program := "ytcbmkkndbeiknaadoor", sum := "2d42ebf6f1e7a559e8253a1ea3505c854707cb581b3a1043fdcd1aefc66b69de", func := "smocking/smockinglaw01.TextDiffs", spec := "textDiffs", inPlace := ["internal/bytealg.IndexByteString", "internal/abi.NoEscape", "internal/bytealg.abigen_runtime_cmpstring"], unfollowed := true, recurses := true, named := ["internal/strconv.uint64pow10", "math/bits.deBruijn32tab", "math/bits.deBruijn64tab"], apart := false, laid := [("math/bits.deBruijn32tab", laid_math_bits_deBruijn32tab), ("math/bits.deBruijn64tab", laid_math_bits_deBruijn64tab), ("internal/strconv.uint64pow10", laid_internal_strconv_uint64pow10)] }
def TextDiffsSaid : Prop := textDiffsRow.holds Tryd.pinned (OpenSpec.ofChange textDiffsSpec)

/-- ITS FALSE NEIGHBOUR: 'it returns false'. Refute it at one input. -/
def textDiffsWrong : ChangeSpec := { name := "textDiffs", fn := fun _ => fun
  | [d1, d2, d3] => { results := [.lit (.bool false)], args := [d1, d2, d3] }
  | _ => none }
def TextDiffsWrongFalsely : Prop := textDiffsRow.holds Tryd.pinned (OpenSpec.ofChange textDiffsWrong)

/-- 'smockinglaw02.LexScans': WHATEVER THE INPUT: true; the input reads as it did. -/
def lexScansSpec : ChangeSpec := { name := "lexScans", fn := fun _ => fun
  | [d] => { results := [.lit (.bool true)], args := [d] }
  | _ => none }
def lexScansRow : OpenClaim := { program := "ytcbmkkndbeiknaadoor", sum := "2d42ebf6f1e7a559e8253a1ea3505c854707cb581b3a1043fdcd1aefc66b69de", func := "smocking/smockinglaw02.LexScans", spec := "lexScans", inPlace := ["internal/bytealg.IndexByteString", "internal/bytealg.IndexString"], unfollowed := true, recurses := true, named := ["smocking/lex.keyWords", "internal/bytealg.MaxLen", "smocking/lex.signWords"], apart := false, laid := [("smocking/lex.keyWords", laid_smocking_lex_keyWords), ("smocking/lex.signWords", laid_smocking_lex_signWords)] }
def LexScansSaid : Prop := lexScansRow.holds Tryd.pinned (OpenSpec.ofChange lexScansSpec)

/-- ITS FALSE NEIGHBOUR: 'it returns false'. Refute it at one input. -/
def lexScansWrong : ChangeSpec := { name := "lexScans", fn := fun _ => fun
  | [d] => { results := [.lit (.bool false)], args := [d] }
  | _ => none }
def LexScansWrongFalsely : Prop := lexScansRow.holds Tryd.pinned (OpenSpec.ofChange lexScansWrong)

/-- 'smockinglaw02.LexTexts': WHATEVER THE INPUT: true; the input reads as it did. -/
def lexTextsSpec : ChangeSpec := { name := "lexTexts", fn := fun _ => fun
  | [d1, d2] => { results := [.lit (.bool true)], args := [d1, d2] }
  | _ => none }
def lexTextsRow : OpenClaim := { program := "ytcbmkkndbeiknaadoor", sum := "2d42ebf6f1e7a559e8253a1ea3505c854707cb581b3a1043fdcd1aefc66b69de", func := "smocking/smockinglaw02.LexTexts", spec := "lexTexts", inPlace := ["internal/bytealg.IndexByteString", "internal/bytealg.IndexString", "internal/abi.NoEscape"], unfollowed := true, recurses := true, named := ["smocking/lex.keyWords", "internal/bytealg.MaxLen", "smocking/lex.signWords"], apart := false, laid := [("smocking/lex.keyWords", laid_smocking_lex_keyWords), ("smocking/lex.signWords", laid_smocking_lex_signWords)] }
def LexTextsSaid : Prop := lexTextsRow.holds Tryd.pinned (OpenSpec.ofChange lexTextsSpec)

/-- ITS FALSE NEIGHBOUR: 'it returns false'. Refute it at one input. -/
def lexTextsWrong : ChangeSpec := { name := "lexTexts", fn := fun _ => fun
  | [d1, d2] => { results := [.lit (.bool false)], args := [d1, d2] }
  | _ => none }
def LexTextsWrongFalsely : Prop := lexTextsRow.holds Tryd.pinned (OpenSpec.ofChange lexTextsWrong)

/-- 'smockinglaw02.LexNames': WHATEVER THE INPUT: true; the input reads as it did. -/
def lexNamesSpec : ChangeSpec := { name := "lexNames", fn := fun _ => fun
  | [d] => { results := [.lit (.bool true)], args := [d] }
  | _ => none }
def lexNamesRow : OpenClaim := { program := "ytcbmkkndbeiknaadoor", sum := "2d42ebf6f1e7a559e8253a1ea3505c854707cb581b3a1043fdcd1aefc66b69de", func := "smocking/smockinglaw02.LexNames", spec := "lexNames", inPlace := ["internal/bytealg.IndexByteString", "internal/bytealg.IndexString"], unfollowed := true, recurses := true, named := ["smocking/lex.keyWords", "smocking/lex.signWords", "internal/bytealg.MaxLen"], apart := false, laid := [("smocking/lex.keyWords", laid_smocking_lex_keyWords), ("smocking/lex.signWords", laid_smocking_lex_signWords)] }
def LexNamesSaid : Prop := lexNamesRow.holds Tryd.pinned (OpenSpec.ofChange lexNamesSpec)

/-- ITS FALSE NEIGHBOUR: 'it returns false'. Refute it at one input. -/
def lexNamesWrong : ChangeSpec := { name := "lexNames", fn := fun _ => fun
  | [d] => { results := [.lit (.bool false)], args := [d] }
  | _ => none }
def LexNamesWrongFalsely : Prop := lexNamesRow.holds Tryd.pinned (OpenSpec.ofChange lexNamesWrong)

/-- 'smockinglaw02.LexFormats': WHATEVER THE INPUT: true; the input reads as it did. -/
def lexFormatsSpec : ChangeSpec := { name := "lexFormats", fn := fun _ => fun
  | [d] => { results := [.lit (.bool true)], args := [d] }
  | _ => none }
def lexFormatsRow : OpenClaim := { program := "ytcbmkkndbeiknaadoor", sum := "2d42ebf6f1e7a559e8253a1ea3505c854707cb581b3a1043fdcd1aefc66b69de", func := "smocking/smockinglaw02.LexFormats", spec := "lexFormats", inPlace := ["internal/bytealg.IndexByteString", "internal/bytealg.IndexString"], unfollowed := true, recurses := true, named := ["unicode/utf8.first", "unicode/utf8.acceptRanges", "internal/bytealg.MaxLen", "smocking/lex.keyWords", "smocking/lex.signWords"], apart := false, laid := [("unicode/utf8.acceptRanges", laid_unicode_utf8_acceptRanges), ("smocking/lex.keyWords", laid_smocking_lex_keyWords), ("smocking/lex.signWords", laid_smocking_lex_signWords), ("unicode/utf8.first", laid_unicode_utf8_first)] }
def LexFormatsSaid : Prop := lexFormatsRow.holds Tryd.pinned (OpenSpec.ofChange lexFormatsSpec)

/-- ITS FALSE NEIGHBOUR: 'it returns false'. Refute it at one input. -/
def lexFormatsWrong : ChangeSpec := { name := "lexFormats", fn := fun _ => fun
  | [d] => { results := [.lit (.bool false)], args := [d] }
  | _ => none }
def LexFormatsWrongFalsely : Prop := lexFormatsRow.holds Tryd.pinned (OpenSpec.ofChange lexFormatsWrong)

/-- 'smockinglaw02.LexKeeps': WHATEVER THE INPUT: true; the input reads as it did. -/
def lexKeepsSpec : ChangeSpec := { name := "lexKeeps", fn := fun _ => fun
  | [d] => { results := [.lit (.bool true)], args := [d] }
  | _ => none }
def lexKeepsRow : OpenClaim := { program := "ytcbmkkndbeiknaadoor", sum := "2d42ebf6f1e7a559e8253a1ea3505c854707cb581b3a1043fdcd1aefc66b69de", func := "smocking/smockinglaw02.LexKeeps", spec := "lexKeeps", inPlace := ["internal/bytealg.IndexByteString", "internal/bytealg.IndexString", "internal/abi.NoEscape"], unfollowed := true, recurses := true, named := ["smocking/lex.keyWords", "internal/bytealg.MaxLen", "smocking/lex.signWords"], apart := false, laid := [("smocking/lex.keyWords", laid_smocking_lex_keyWords), ("smocking/lex.signWords", laid_smocking_lex_signWords)] }
def LexKeepsSaid : Prop := lexKeepsRow.holds Tryd.pinned (OpenSpec.ofChange lexKeepsSpec)

/-- ITS FALSE NEIGHBOUR: 'it returns false'. Refute it at one input. -/
def lexKeepsWrong : ChangeSpec := { name := "lexKeeps", fn := fun _ => fun
  | [d] => { results := [.lit (.bool false)], args := [d] }
  | _ => none }
def LexKeepsWrongFalsely : Prop := lexKeepsRow.holds Tryd.pinned (OpenSpec.ofChange lexKeepsWrong)

/-- 'smockinglaw02.LexJoins': WHATEVER THE INPUT: true; the input reads as it did. -/
def lexJoinsSpec : ChangeSpec := { name := "lexJoins", fn := fun _ => fun
  | [d] => { results := [.lit (.bool true)], args := [d] }
  | _ => none }
def lexJoinsRow : OpenClaim := { program := "ytcbmkkndbeiknaadoor", sum := "2d42ebf6f1e7a559e8253a1ea3505c854707cb581b3a1043fdcd1aefc66b69de", func := "smocking/smockinglaw02.LexJoins", spec := "lexJoins", inPlace := ["internal/bytealg.IndexByteString", "internal/bytealg.IndexString"], unfollowed := true, recurses := true, named := ["smocking/lex.keyWords", "internal/bytealg.MaxLen", "smocking/lex.signWords"], apart := false, laid := [("smocking/lex.keyWords", laid_smocking_lex_keyWords), ("smocking/lex.signWords", laid_smocking_lex_signWords)] }
def LexJoinsSaid : Prop := lexJoinsRow.holds Tryd.pinned (OpenSpec.ofChange lexJoinsSpec)

/-- ITS FALSE NEIGHBOUR: 'it returns false'. Refute it at one input. -/
def lexJoinsWrong : ChangeSpec := { name := "lexJoins", fn := fun _ => fun
  | [d] => { results := [.lit (.bool false)], args := [d] }
  | _ => none }
def LexJoinsWrongFalsely : Prop := lexJoinsRow.holds Tryd.pinned (OpenSpec.ofChange lexJoinsWrong)

/-- 'smockinglaw02.LexTwo': WHATEVER THE INPUT: true; the input reads as it did. -/
def lexTwoSpec : ChangeSpec := { name := "lexTwo", fn := fun _ => fun
  | [d1, d2] => { results := [.lit (.bool true)], args := [d1, d2] }
  | _ => none }
def lexTwoRow : OpenClaim := { program := "ytcbmkkndbeiknaadoor", sum := "2d42ebf6f1e7a559e8253a1ea3505c854707cb581b3a1043fdcd1aefc66b69de", func := "smocking/smockinglaw02.LexTwo", spec := "lexTwo", inPlace := ["internal/bytealg.IndexByteString", "internal/bytealg.IndexString"], unfollowed := true, recurses := true, named := ["smocking/lex.keyWords", "internal/bytealg.MaxLen", "smocking/lex.signWords"], apart := false, laid := [("smocking/lex.keyWords", laid_smocking_lex_keyWords), ("smocking/lex.signWords", laid_smocking_lex_signWords)] }
def LexTwoSaid : Prop := lexTwoRow.holds Tryd.pinned (OpenSpec.ofChange lexTwoSpec)

/-- ITS FALSE NEIGHBOUR: 'it returns false'. Refute it at one input. -/
def lexTwoWrong : ChangeSpec := { name := "lexTwo", fn := fun _ => fun
  | [d1, d2] => { results := [.lit (.bool false)], args := [d1, d2] }
  | _ => none }
def LexTwoWrongFalsely : Prop := lexTwoRow.holds Tryd.pinned (OpenSpec.ofChange lexTwoWrong)

/- THE SECOND FORM. 'bulk': how many values and letters a reading holds, each counted each time it is reached (what is shared counts as often as it is met; a slice's spare places count too). A statement '..UptoSaid' is the law's where the arguments, and the package variables that the reading takes, are together of bulk at most 1048576: NARROWER than '..Said'. Prove '..Said' where nothing that the law and all that it calls make is longer than what came in: it says more and counts as full. Else prove '..UptoSaid'. A law counts once. -/
mutual
def uptoBulk {H : Type} : DataW H → Nat
  | .lit (.string bytes) => bytes.length + 1
  | .lit _ => 1
  | .nil => 1
  | .ptr d => uptoBulk d + 1
  | .slice elems spare => uptoBulkAll elems + uptoBulkAll spare + 1
  | .agg parts => uptoBulkAll parts + 1
  | .iface _ d => uptoBulk d + 1
  | .map entries => uptoBulkEntries entries + 1
  | .held _ => 1
def uptoBulkAll {H : Type} : List (DataW H) → Nat
  | [] => 0
  | d :: r => uptoBulk d + uptoBulkAll r
def uptoBulkEntries {H : Type} : List (Lit × DataW H) → Nat
  | [] => 0
  | x :: r => uptoBulkEntry x + uptoBulkEntries r
def uptoBulkEntry {H : Type} : Lit × DataW H → Nat
  | (.string bytes, d) => bytes.length + uptoBulk d + 1
  | (_, d) => uptoBulk d + 1
 end
def uptoSmall : (H : Type) → List (DataW H) → Bool := fun _ ds => decide (uptoBulkAll ds ≤ 1048576)
def OpenSpec.upto (s : _root_.Go.ChangeSpec) : _root_.Go.OpenSpec := { _root_.Go.OpenSpec.ofChange s with cond := some uptoSmall }

/-- 'smockinglaw01.TextDiffs', WHERE WHAT IT READS IS OF BULK AT MOST 1048576: true; the input reads as it did. -/
def textDiffsUptoRow : OpenClaim := { program := "ytcbmkkndbeiknaadoor", sum := "2d42ebf6f1e7a559e8253a1ea3505c854707cb581b3a1043fdcd1aefc66b69de", func := "smocking/smockinglaw01.TextDiffs", spec := "textDiffs", inPlace := ["internal/bytealg.IndexByteString", "internal/abi.NoEscape", "internal/bytealg.abigen_runtime_cmpstring"], unfollowed := true, recurses := true, named := ["internal/strconv.uint64pow10", "math/bits.deBruijn32tab", "math/bits.deBruijn64tab"], apart := false, laid := [("math/bits.deBruijn32tab", laid_math_bits_deBruijn32tab), ("math/bits.deBruijn64tab", laid_math_bits_deBruijn64tab), ("internal/strconv.uint64pow10", laid_internal_strconv_uint64pow10)], narrowed := true }
def TextDiffsUptoSaid : Prop := textDiffsUptoRow.holds Tryd.pinned (OpenSpec.upto textDiffsSpec)

/-- 'smockinglaw02.LexScans', WHERE WHAT IT READS IS OF BULK AT MOST 1048576: true; the input reads as it did. -/
def lexScansUptoRow : OpenClaim := { program := "ytcbmkkndbeiknaadoor", sum := "2d42ebf6f1e7a559e8253a1ea3505c854707cb581b3a1043fdcd1aefc66b69de", func := "smocking/smockinglaw02.LexScans", spec := "lexScans", inPlace := ["internal/bytealg.IndexByteString", "internal/bytealg.IndexString"], unfollowed := true, recurses := true, named := ["smocking/lex.keyWords", "internal/bytealg.MaxLen", "smocking/lex.signWords"], apart := false, laid := [("smocking/lex.keyWords", laid_smocking_lex_keyWords), ("smocking/lex.signWords", laid_smocking_lex_signWords)], narrowed := true }
def LexScansUptoSaid : Prop := lexScansUptoRow.holds Tryd.pinned (OpenSpec.upto lexScansSpec)

/-- 'smockinglaw02.LexTexts', WHERE WHAT IT READS IS OF BULK AT MOST 1048576: true; the input reads as it did. -/
def lexTextsUptoRow : OpenClaim := { program := "ytcbmkkndbeiknaadoor", sum := "2d42ebf6f1e7a559e8253a1ea3505c854707cb581b3a1043fdcd1aefc66b69de", func := "smocking/smockinglaw02.LexTexts", spec := "lexTexts", inPlace := ["internal/bytealg.IndexByteString", "internal/bytealg.IndexString", "internal/abi.NoEscape"], unfollowed := true, recurses := true, named := ["smocking/lex.keyWords", "internal/bytealg.MaxLen", "smocking/lex.signWords"], apart := false, laid := [("smocking/lex.keyWords", laid_smocking_lex_keyWords), ("smocking/lex.signWords", laid_smocking_lex_signWords)], narrowed := true }
def LexTextsUptoSaid : Prop := lexTextsUptoRow.holds Tryd.pinned (OpenSpec.upto lexTextsSpec)

/-- 'smockinglaw02.LexNames', WHERE WHAT IT READS IS OF BULK AT MOST 1048576: true; the input reads as it did. -/
def lexNamesUptoRow : OpenClaim := { program := "ytcbmkkndbeiknaadoor", sum := "2d42ebf6f1e7a559e8253a1ea3505c854707cb581b3a1043fdcd1aefc66b69de", func := "smocking/smockinglaw02.LexNames", spec := "lexNames", inPlace := ["internal/bytealg.IndexByteString", "internal/bytealg.IndexString"], unfollowed := true, recurses := true, named := ["smocking/lex.keyWords", "smocking/lex.signWords", "internal/bytealg.MaxLen"], apart := false, laid := [("smocking/lex.keyWords", laid_smocking_lex_keyWords), ("smocking/lex.signWords", laid_smocking_lex_signWords)], narrowed := true }
def LexNamesUptoSaid : Prop := lexNamesUptoRow.holds Tryd.pinned (OpenSpec.upto lexNamesSpec)

/-- 'smockinglaw02.LexFormats', WHERE WHAT IT READS IS OF BULK AT MOST 1048576: true; the input reads as it did. -/
def lexFormatsUptoRow : OpenClaim := { program := "ytcbmkkndbeiknaadoor", sum := "2d42ebf6f1e7a559e8253a1ea3505c854707cb581b3a1043fdcd1aefc66b69de", func := "smocking/smockinglaw02.LexFormats", spec := "lexFormats", inPlace := ["internal/bytealg.IndexByteString", "internal/bytealg.IndexString"], unfollowed := true, recurses := true, named := ["unicode/utf8.first", "unicode/utf8.acceptRanges", "internal/bytealg.MaxLen", "smocking/lex.keyWords", "smocking/lex.signWords"], apart := false, laid := [("unicode/utf8.acceptRanges", laid_unicode_utf8_acceptRanges), ("smocking/lex.keyWords", laid_smocking_lex_keyWords), ("smocking/lex.signWords", laid_smocking_lex_signWords), ("unicode/utf8.first", laid_unicode_utf8_first)], narrowed := true }
def LexFormatsUptoSaid : Prop := lexFormatsUptoRow.holds Tryd.pinned (OpenSpec.upto lexFormatsSpec)

/-- 'smockinglaw02.LexKeeps', WHERE WHAT IT READS IS OF BULK AT MOST 1048576: true; the input reads as it did. -/
def lexKeepsUptoRow : OpenClaim := { program := "ytcbmkkndbeiknaadoor", sum := "2d42ebf6f1e7a559e8253a1ea3505c854707cb581b3a1043fdcd1aefc66b69de", func := "smocking/smockinglaw02.LexKeeps", spec := "lexKeeps", inPlace := ["internal/bytealg.IndexByteString", "internal/bytealg.IndexString", "internal/abi.NoEscape"], unfollowed := true, recurses := true, named := ["smocking/lex.keyWords", "internal/bytealg.MaxLen", "smocking/lex.signWords"], apart := false, laid := [("smocking/lex.keyWords", laid_smocking_lex_keyWords), ("smocking/lex.signWords", laid_smocking_lex_signWords)], narrowed := true }
def LexKeepsUptoSaid : Prop := lexKeepsUptoRow.holds Tryd.pinned (OpenSpec.upto lexKeepsSpec)

/-- 'smockinglaw02.LexJoins', WHERE WHAT IT READS IS OF BULK AT MOST 1048576: true; the input reads as it did. -/
def lexJoinsUptoRow : OpenClaim := { program := "ytcbmkkndbeiknaadoor", sum := "2d42ebf6f1e7a559e8253a1ea3505c854707cb581b3a1043fdcd1aefc66b69de", func := "smocking/smockinglaw02.LexJoins", spec := "lexJoins", inPlace := ["internal/bytealg.IndexByteString", "internal/bytealg.IndexString"], unfollowed := true, recurses := true, named := ["smocking/lex.keyWords", "internal/bytealg.MaxLen", "smocking/lex.signWords"], apart := false, laid := [("smocking/lex.keyWords", laid_smocking_lex_keyWords), ("smocking/lex.signWords", laid_smocking_lex_signWords)], narrowed := true }
def LexJoinsUptoSaid : Prop := lexJoinsUptoRow.holds Tryd.pinned (OpenSpec.upto lexJoinsSpec)

/-- 'smockinglaw02.LexTwo', WHERE WHAT IT READS IS OF BULK AT MOST 1048576: true; the input reads as it did. -/
def lexTwoUptoRow : OpenClaim := { program := "ytcbmkkndbeiknaadoor", sum := "2d42ebf6f1e7a559e8253a1ea3505c854707cb581b3a1043fdcd1aefc66b69de", func := "smocking/smockinglaw02.LexTwo", spec := "lexTwo", inPlace := ["internal/bytealg.IndexByteString", "internal/bytealg.IndexString"], unfollowed := true, recurses := true, named := ["smocking/lex.keyWords", "internal/bytealg.MaxLen", "smocking/lex.signWords"], apart := false, laid := [("smocking/lex.keyWords", laid_smocking_lex_keyWords), ("smocking/lex.signWords", laid_smocking_lex_signWords)], narrowed := true }
def LexTwoUptoSaid : Prop := lexTwoUptoRow.holds Tryd.pinned (OpenSpec.upto lexTwoSpec)

end Rows
end Go.Proofs.YtcbmkkndbeiknaaDoor
