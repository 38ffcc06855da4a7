/- What a macro's law gets of its row's lists: the words and signs, behind two tables of unicode/utf8; a world for the witness. -/
import Derived.Test.YtjdpkhjoecfhlaaGreatDoorPostL
namespace Go.Proofs.YtjdpkhjoecfhlaaGreatDoor
open Go.ChangeShapes Go.WideShapes Go.ChangeAt Go.ChangeMaps Go.RowKit

/-- what every row of macro lists -/
def theLaidM : List (String × DataW Unit) := [("unicode/utf8.acceptRanges", Rows.laid_unicode_utf8_acceptRanges), ("smocking/lex.keyWords", Rows.laid_smocking_lex_keyWords), ("smocking/lex.signWords", Rows.laid_smocking_lex_signWords), ("unicode/utf8.first", Rows.laid_unicode_utf8_first)]
theorem lexG_ofM {W : World} (h : laidMetH Tryz.prog theLaidM W) (hs : W.ShapedOpen Tryz.prog) : LexG W.heap.size W := by
  have h1 : laidMet Tryz.prog theLaidM W := h
  have h2 := laidMet_rest h1
  have h3 := laidMet_rest h2
  obtain ⟨m, hm⟩ := Tryz.laysM143.s1_3 W hs
  exact ⟨Nat.le_refl _, words_of (l := keysL) gKeys gKeysType (by decide) h2, words_of (l := signsL) gSigns gSignsType (by decide) h3, World.block_lt_of_cell? W _ hm, m, hm⟩

def flatD : DataW Unit → List Value
  | .agg l => l.map fun x => match x with | .lit (.int k n) => Value.int k n | _ => undef
  | _ => []
def cellsOfDM : DataW Unit → Array Value
  | .agg l => (l.flatMap fun x => match x with | .lit (.int k n) => [Value.int k n] | y => flatD y).toArray
  | _ => #[]
def fillBM (h : Array Obj) (g : Nat) (d : DataW Unit) : Array Obj := h.modify g fun o => match o with
  | .cells _ t frozen => .cells (cellsOfDM d) t frozen
  | o => o
/-- a world for the witness -/
noncomputable def laidWorldM (os : Os) : World :=
  { laidWorldL os with heap := fillBM (fillBM (laidWorldL os).heap 4 Rows.laid_unicode_utf8_acceptRanges) 3 Rows.laid_unicode_utf8_first }

end Go.Proofs.YtjdpkhjoecfhlaaGreatDoor
