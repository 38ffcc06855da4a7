/- Lex: Strip, over any tokens. Rows of unlike elements are apart; a row of bytes as a text. -/
import Derived.Test.YtihnafocjognaaaGreatDoorLexEq
import Derived.Lib.AppendStr
import Derived.Laws.BytesArg
import Derived.Laws.IdiomStrings
import Derived.Deep.RegionHeld3
namespace Go.Proofs.YtihnafocjognaaaGreatDoor
open Go.RowKit Go.Maps Go.Shelf

theorem infoU8L : (Tryz.prog.info? 5).map (fun i => (i.zero, i.size, i.bytes)) = some (some (.int .u8 0), 1, 1) := by kernel_rfl
theorem infoIntL : (Tryz.prog.info? 3).map (fun i => (i.zero, i.size, i.bytes)) = some (some (.int .i64 0), 1, 8) := by kernel_rfl

theorem own_typeL {w : World} {base n : Nat} {e : TypeId} {k g : Nat} {v : Value} {xs : List Value} (h : w.ownsRow base e k v n xs) (hg : v.ownBlock = some g) : ∃ cur, w.heap[g]? = some (.cells cur e (0, 0)) := by
  rcases h.2 with ⟨e1, e0⟩ | ⟨g', cap, cur, e1, _, h2, _⟩
  · subst e1; cases hg
  · subst e1
    injection hg with hg
    subst hg
    exact ⟨cur, h2⟩
/-- a row of other elements is kept -/
theorem own_apartL {w w' : World} {b1 b2 n1 n2 k1 k2 : Nat} {e1 e2 : TypeId} {v1 v2 : Value} {xs1 xs2 : List Value} (h1 : w.ownsRow b1 e1 k1 v1 n1 xs1) (h2 : w.ownsRow b2 e2 k2 v2 n2 xs2) (hne : e1 ≠ e2) (hg : w.grownBy w' v2.ownBlock) : w'.ownsRow b1 e1 k1 v1 n1 xs1 := by
  refine h1.kept hg ?_
  cases h : v1.ownBlock with
  | none => exact .inl rfl
  | some g =>
    refine .inr fun e => ?_
    obtain ⟨c1, a⟩ := own_typeL h1 h
    obtain ⟨c2, b⟩ := own_typeL h2 e.symm
    rw [a] at b
    injection b with b
    injection b with _ b
    exact hne b
/-- 'string(b)' of a row of bytes that is owned -/
theorem conv_ownL {w : World} {base : Nat} {v : Value} {l : List UInt8} (h : w.ownsRow base 5 1 v l.length (Lib.byteCells l)) : (convert 45 9 v).run Tryz.prog w = .ok (.string ⟨l.toArray⟩) w := by
  rcases h.2 with ⟨e, e0⟩ | ⟨g, cap, cur, e, hb, hg, hn, hc, hs, ht⟩
  · have : l = [] := List.eq_nil_of_length_eq_zero e0
    subst this
    subst e
    exact run_convert_bytes_nil (w := w) 45 5 Tryz.underlying45 Tryz.underlying5 0 0 9 Tryz.underlying9
  · subst e
    refine run_convert_bytes_back w 45 9 5 ⟨g, 0, none⟩ cap l Tryz.underlying45 Tryz.underlying5 Tryz.underlying9 fun j hj => ?_
    exact h.cells rfl j _ (by simp [Lib.byteCells, List.getElem?_map, List.getElem?_eq_getElem hj])
theorem strCells_bytesL (s : ByteArray) : Lib.strCells s = Lib.byteCells s.data.toList := rfl
theorem byteCells_appendL (a b : List UInt8) : Lib.byteCells (a ++ b) = Lib.byteCells a ++ Lib.byteCells b := by simp [Lib.byteCells]

/-- the tokens that are neither a preprocessor line nor the end -/
def keepK (t : Tk) : Bool := decide (t.k ≠ 7) && decide (t.k ≠ 0)
def keepT (l : List Tk) : List Tk := l.filter keepK
theorem keepT_take (l : List Tk) (k : Nat) (h : k < l.length) : keepT (l.take (k + 1)) = if keepK l[k] = true then keepT (l.take k) ++ [l[k]] else keepT (l.take k) := by
  unfold keepT
  rw [List.take_succ_eq_append_getElem h, List.filter_append]
  by_cases g : keepK l[k] = true
  · rw [if_pos g]; simp [g]
  · rw [if_neg g]; simp [g]
theorem keepT_len (l : List Tk) : (keepT l).length ≤ l.length := List.length_filter_le _ _

/-- the texts of these, in memory -/
def stripL (l : List Tk) : List ByteArray := (keepT l).map Tk.x
def stripV (l : List Tk) : List Value := (stripL l).map Value.string

end Go.Proofs.YtihnafocjognaaaGreatDoor
