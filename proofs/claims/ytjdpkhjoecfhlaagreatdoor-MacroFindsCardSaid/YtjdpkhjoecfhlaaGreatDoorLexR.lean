/- Lex: the tokens of what is left of a text. -/
import Derived.Test.YtjdpkhjoecfhlaaGreatDoorLexM
namespace Go.Proofs.YtjdpkhjoecfhlaaGreatDoor
open Go.RowKit Go.Maps Go.Shelf

/-- the first token of what is left, and the place behind it -/
def endTk (f : Bool) (a : Nat) (l : List UInt8) : Tk := ⟨0, ⟨(l.take (skipF f l).1).toArray⟩, ⟨#[]⟩, a + (skipF f l).1⟩
def theTk (f : Bool) (a : Nat) (l : List UInt8) : Tk := ⟨(tokF (skipF f l).2 (l.drop (skipF f l).1)).1, ⟨(l.take (skipF f l).1).toArray⟩, ⟨((l.drop (skipF f l).1).take (tokF (skipF f l).2 (l.drop (skipF f l).1)).2).toArray⟩, a + (skipF f l).1⟩

theorem tokG_step (k : Nat) (f : Bool) (a : Nat) (l : List UInt8) : tokG (k + 1) f a l = if l.length ≤ (skipF f l).1 then [endTk f a l] else
    theTk f a l :: tokG k false (a + (skipF f l).1 + (tokF (skipF f l).2 (l.drop (skipF f l).1)).2) ((l.drop (skipF f l).1).drop (tokF (skipF f l).2 (l.drop (skipF f l).1)).2) := rfl

theorem left_less (f : Bool) (l : List UInt8) (h : ¬ l.length ≤ (skipF f l).1) : ((l.drop (skipF f l).1).drop (tokF (skipF f l).2 (l.drop (skipF f l).1)).2).length < l.length := by
  have := tokF_le (skipF f l).2 (l.drop (skipF f l).1) (List.ne_nil_of_length_pos (by rw [List.length_drop]; omega))
  rw [List.length_drop] at this
  rw [List.length_drop, List.length_drop]
  omega

theorem tokG_more : ∀ k f a l, l.length < k → tokG k f a l = tokG (k + 1) f a l
  | 0, _, _, _, h => absurd h (Nat.not_lt_zero _)
  | k + 1, f, a, l, h => by
    rw [tokG_step, tokG_step (k + 1)]
    by_cases g : l.length ≤ (skipF f l).1
    · rw [if_pos g, if_pos g]
    · rw [if_neg g, if_neg g, tokG_more k _ _ _ (by have := left_less f l g; omega)]
theorem tokG_enough (f : Bool) (a : Nat) (l : List UInt8) (k : Nat) (hk : l.length < k) : tokG k f a l = tokG (l.length + 1) f a l := by
  obtain ⟨d, rfl⟩ : ∃ d, k = l.length + 1 + d := ⟨k - (l.length + 1), by omega⟩
  induction d with
  | zero => rfl
  | succ d ih => rw [← Nat.add_assoc, ← tokG_more _ _ _ _ (by omega)]; exact ih (by omega)
/-- the tokens of what is left -/
def tokR (f : Bool) (a : Nat) (l : List UInt8) : List Tk := tokG (l.length + 1) f a l
theorem tokR_step (f : Bool) (a : Nat) (l : List UInt8) : tokR f a l = if l.length ≤ (skipF f l).1 then [endTk f a l] else
    theTk f a l :: tokR false (a + (skipF f l).1 + (tokF (skipF f l).2 (l.drop (skipF f l).1)).2) ((l.drop (skipF f l).1).drop (tokF (skipF f l).2 (l.drop (skipF f l).1)).2) := by
  rw [tokR, tokG_step]
  by_cases g : l.length ≤ (skipF f l).1
  · rw [if_pos g, if_pos g]
  · rw [if_neg g, if_neg g, tokG_enough _ _ _ _ (left_less f l g)]; rfl
theorem tokR_ne (f : Bool) (a : Nat) (l : List UInt8) : tokR f a l ≠ [] := by rw [tokR_step]; split <;> simp

theorem tokF_kind (f : Bool) (l : List UInt8) : 1 ≤ (tokF f l).1 ∧ (tokF f l).1 ≤ 8 := by
  unfold tokF
  repeat' split
  all_goals exact ⟨by simp, by simp⟩

/-- a token in memory -/
def Tk.cells (t : Tk) : List Value := [.int .i64 t.k, .string t.b, .string t.x, .int .i64 t.a]
def cellsT (l : List Tk) : List Value := l.flatMap Tk.cells
theorem cellsT_append (l r : List Tk) : cellsT (l ++ r) = cellsT l ++ cellsT r := by simp [cellsT]
theorem cellsT_length (l : List Tk) : (cellsT l).length = l.length * 4 := by
  induction l with
  | nil => rfl
  | cons x l ih => simp [cellsT, Tk.cells] at ih ⊢; omega
theorem cellsT_get : ∀ (l : List Tk) (i : Nat) (h : i < l.length), (cellsT l)[i * 4]? = some (.int .i64 l[i].k) ∧ (cellsT l)[i * 4 + 1]? = some (.string l[i].b) ∧ (cellsT l)[i * 4 + 2]? = some (.string l[i].x) ∧ (cellsT l)[i * 4 + 3]? = some (.int .i64 l[i].a)
  | [], _, h => by simp at h
  | x :: l, 0, _ => by simp [cellsT, Tk.cells]
  | x :: l, i + 1, h => by
    have ih := cellsT_get l i (by simpa using h)
    have e : ∀ j, (cellsT (x :: l))[j + 4]? = (cellsT l)[j]? := fun j => by
      show (Tk.cells x ++ cellsT l)[j + 4]? = _
      rw [List.getElem?_append_right (by simp [Tk.cells])]
      simp [Tk.cells]
    rw [show (i + 1) * 4 = i * 4 + 4 by omega, show i * 4 + 4 + 1 = i * 4 + 1 + 4 by omega, show i * 4 + 4 + 2 = i * 4 + 2 + 4 by omega, show i * 4 + 4 + 3 = i * 4 + 3 + 4 by omega, e, e, e, e]
    exact ih

/-- what Scan answers -/
def scanOk (s : ByteArray) : Bool := decide (s.size ≤ 200000) && decide ((tokR true 0 s.data.toList).length ≤ 40000)
def scanL (s : ByteArray) : List Tk := if scanOk s = true then tokR true 0 s.data.toList else []
def scanE (s : ByteArray) : Nat := if scanOk s = true then 0 else 2

/-- the program's extracts are the lists' -/
theorem ext_mid (s : ByteArray) (i n : Nat) : s.extract i (i + n) = ⟨((s.data.toList.drop i).take n).toArray⟩ := by
  have : (s.extract i (i + n)).data.toList = (s.data.toList.drop i).take n := by
    rw [ByteArray.data_extract, Array.toList_extract]
    simp only [List.extract]
    rw [Nat.add_sub_cancel_left]
  cases h : s.extract i (i + n)
  rw [h] at this
  simp at this
  rw [← this]

end Go.Proofs.YtjdpkhjoecfhlaaGreatDoor
