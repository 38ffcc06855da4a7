/-
  NARROWER THAN 'FOR EVERY INPUT', by the rows' own cells (each row's printed sentence says how): LexRescans: laid.
  DERIVED. THE GIVEN ROWS OF THIS SEAT. 1 by the template 'for every input the law returns true; each argument reads behind the call as it read before'; 0 by the template 'total and deterministic' (their statements: YtihnafocjognaaaGreatDoorTotals.lean).
  GIVEN WITH THE SEED: the statements are not yours to turn. If you find one false, say at which input.
  Laid BY PROGRAM, IN A SANDBOX (cutbox-rows.mjs): the forced cells as the released guide's own fill.sh prints them over the translation 270e36d6356f2920… (all of the seat's roots in one cut). By AI agents, Wed Nov 11 2026. No macro, syntax, notation, axiom, sorry.
-/
import Derived.Test.YtihnafocjognaaaGreatDoorChecked
import GoSem.Claim
import GoSem.ClaimJoined
import GoSem.ClaimMapViews
import Derived.JoinedTies
import Derived.KernelRfl
namespace Go.Proofs.YtihnafocjognaaaGreatDoor
/- THE CELL 'sum', in the pinned program and in every row, IS THE sha256 OF THE DUMP (.gsa) THAT YtihnafocjognaaaGreatDoorProg.lean LOADS. Nothing in Lean hashes anything: it is a label: what it is worth is what the hold of that sum in a sandbox is worth. -/
noncomputable def Tryz.pinned : Pinned := { name := "ytihnafocjognaaagreatdoor", sum := "270e36d6356f2920eedc6af29ce08617a6ef99ff639ca5355875b531b6c606c2", checked := Tryz.checked }
namespace Rows
def none {H : Type} : Left H := { results := [], args := [] }

/- WHAT THE LISTED PACKAGE-LEVEL VARIABLES READ AS WHEN THE CALL BEGINS. Each datum BY PROGRAM (the guide's laid-datum.mjs) off the statement by which the dump's own 'gosem.cut.vars' lays the variable. In a bare row this is a premise. The card (YtihnafocjognaaaGreatDoorCards.lean) ties it to the program's text. -/
def laid_smocking_lex_keyWords {H : Type} : DataW H := .slice [.lit (.string [98, 114, 101, 97, 107]), .lit (.string [99, 97, 115, 101]), .lit (.string [99, 104, 97, 114]), .lit (.string [99, 111, 110, 115, 116]), .lit (.string [99, 111, 110, 116, 105, 110, 117, 101]), .lit (.string [100, 101, 102, 97, 117, 108, 116]), .lit (.string [100, 111]), .lit (.string [101, 108, 115, 101]), .lit (.string [101, 110, 117, 109]), .lit (.string [101, 120, 116, 101, 114, 110]), .lit (.string [102, 111, 114]), .lit (.string [103, 111, 116, 111]), .lit (.string [105, 102]), .lit (.string [105, 110, 116]), .lit (.string [108, 111, 110, 103]), .lit (.string [114, 101, 116, 117, 114, 110]), .lit (.string [115, 104, 111, 114, 116]), .lit (.string [115, 105, 103, 110, 101, 100]), .lit (.string [115, 105, 122, 101, 111, 102]), .lit (.string [115, 116, 97, 116, 105, 99]), .lit (.string [115, 116, 114, 117, 99, 116]), .lit (.string [115, 119, 105, 116, 99, 104]), .lit (.string [116, 121, 112, 101, 100, 101, 102]), .lit (.string [117, 110, 105, 111, 110]), .lit (.string [117, 110, 115, 105, 103, 110, 101, 100]), .lit (.string [118, 111, 105, 100]), .lit (.string [118, 111, 108, 97, 116, 105, 108, 101]), .lit (.string [119, 104, 105, 108, 101])] []
def laid_smocking_lex_signWords {H : Type} : DataW H := .slice [.lit (.string [46, 46, 46]), .lit (.string [60, 60, 61]), .lit (.string [62, 62, 61]), .lit (.string [60, 60]), .lit (.string [62, 62]), .lit (.string [60, 61]), .lit (.string [62, 61]), .lit (.string [61, 61]), .lit (.string [33, 61]), .lit (.string [38, 38]), .lit (.string [124, 124]), .lit (.string [43, 43]), .lit (.string [45, 45]), .lit (.string [43, 61]), .lit (.string [45, 61]), .lit (.string [42, 61]), .lit (.string [47, 61]), .lit (.string [37, 61]), .lit (.string [38, 61]), .lit (.string [124, 61]), .lit (.string [94, 61]), .lit (.string [45, 62]), .lit (.string [43]), .lit (.string [45]), .lit (.string [42]), .lit (.string [47]), .lit (.string [37]), .lit (.string [38]), .lit (.string [124]), .lit (.string [94]), .lit (.string [33]), .lit (.string [126]), .lit (.string [60]), .lit (.string [62]), .lit (.string [61]), .lit (.string [63]), .lit (.string [58]), .lit (.string [59]), .lit (.string [44]), .lit (.string [46]), .lit (.string [40]), .lit (.string [41]), .lit (.string [91]), .lit (.string [93]), .lit (.string [123]), .lit (.string [125]), .lit (.string [35])] []

/-- 'smockinglaw02.LexRescans': WHATEVER THE INPUT: true; the input reads as it did. -/
def lexRescansSpec : ChangeSpec := { name := "lexRescans", fn := fun _ => fun
  | [d1, d2, d3] => { results := [.lit (.bool true)], args := [d1, d2, d3] }
  | _ => none }
def lexRescansRow : OpenClaim := { program := "ytihnafocjognaaagreatdoor", sum := "270e36d6356f2920eedc6af29ce08617a6ef99ff639ca5355875b531b6c606c2", func := "smocking/smockinglaw02.LexRescans", spec := "lexRescans", inPlace := ["internal/bytealg.IndexByteString", "internal/bytealg.IndexString", "internal/bytealg.abigen_runtime_cmpstring", "internal/abi.NoEscape"], unfollowed := true, recurses := true, named := ["smocking/lex.keyWords", "internal/bytealg.MaxLen", "smocking/lex.signWords"], apart := false, laid := [("smocking/lex.keyWords", laid_smocking_lex_keyWords), ("smocking/lex.signWords", laid_smocking_lex_signWords)] }
def LexRescansSaid : Prop := lexRescansRow.holds Tryz.pinned (OpenSpec.ofChange lexRescansSpec)

/-- ITS FALSE NEIGHBOUR: 'it returns false'. Refute it at one input. -/
def lexRescansWrong : ChangeSpec := { name := "lexRescans", fn := fun _ => fun
  | [d1, d2, d3] => { results := [.lit (.bool false)], args := [d1, d2, d3] }
  | _ => none }
def LexRescansWrongFalsely : Prop := lexRescansRow.holds Tryz.pinned (OpenSpec.ofChange lexRescansWrong)

/- THE SECOND FORM. 'bulk': how many values and letters a reading holds, each counted each time it is reached (what is shared counts as often as it is met; a slice's spare places count too). A statement '..UptoSaid' is the law's where the arguments, and the package variables that the reading takes, are together of bulk at most 1048576: NARROWER than '..Said'. Prove '..Said' where nothing that the law and all that it calls make is longer than what came in: it says more and counts as full. Else prove '..UptoSaid'. A law counts once. -/
mutual
def uptoBulk {H : Type} : DataW H → Nat
  | .lit (.string bytes) => bytes.length + 1
  | .lit _ => 1
  | .nil => 1
  | .ptr d => uptoBulk d + 1
  | .slice elems spare => uptoBulkAll elems + uptoBulkAll spare + 1
  | .agg parts => uptoBulkAll parts + 1
  | .iface _ d => uptoBulk d + 1
  | .map entries => uptoBulkEntries entries + 1
  | .held _ => 1
def uptoBulkAll {H : Type} : List (DataW H) → Nat
  | [] => 0
  | d :: r => uptoBulk d + uptoBulkAll r
def uptoBulkEntries {H : Type} : List (Lit × DataW H) → Nat
  | [] => 0
  | x :: r => uptoBulkEntry x + uptoBulkEntries r
def uptoBulkEntry {H : Type} : Lit × DataW H → Nat
  | (.string bytes, d) => bytes.length + uptoBulk d + 1
  | (_, d) => uptoBulk d + 1
 end
def uptoSmall : (H : Type) → List (DataW H) → Bool := fun _ ds => decide (uptoBulkAll ds ≤ 1048576)
def OpenSpec.upto (s : _root_.Go.ChangeSpec) : _root_.Go.OpenSpec := { _root_.Go.OpenSpec.ofChange s with cond := some uptoSmall }

/-- 'smockinglaw02.LexRescans', WHERE WHAT IT READS IS OF BULK AT MOST 1048576: true; the input reads as it did. -/
def lexRescansUptoRow : OpenClaim := { program := "ytihnafocjognaaagreatdoor", sum := "270e36d6356f2920eedc6af29ce08617a6ef99ff639ca5355875b531b6c606c2", func := "smocking/smockinglaw02.LexRescans", spec := "lexRescans", inPlace := ["internal/bytealg.IndexByteString", "internal/bytealg.IndexString", "internal/bytealg.abigen_runtime_cmpstring", "internal/abi.NoEscape"], unfollowed := true, recurses := true, named := ["smocking/lex.keyWords", "internal/bytealg.MaxLen", "smocking/lex.signWords"], apart := false, laid := [("smocking/lex.keyWords", laid_smocking_lex_keyWords), ("smocking/lex.signWords", laid_smocking_lex_signWords)], narrowed := true }
def LexRescansUptoSaid : Prop := lexRescansUptoRow.holds Tryz.pinned (OpenSpec.upto lexRescansSpec)

end Rows
end Go.Proofs.YtihnafocjognaaaGreatDoor
