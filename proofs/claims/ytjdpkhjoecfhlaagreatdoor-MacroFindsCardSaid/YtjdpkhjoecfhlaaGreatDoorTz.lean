/- Lex: any tokens, as they come in: their bytes, their places; how large they are (long), whether they are a text's (wholeSize). -/
import Derived.Test.YtjdpkhjoecfhlaaGreatDoorLexStrip
import Derived.Test.YtjdpkhjoecfhlaaGreatDoorLexJ
import Derived.Test.YtjdpkhjoecfhlaaGreatDoorBuilder
namespace Go.Proofs.YtjdpkhjoecfhlaaGreatDoor
open Go.RowKit Go.Maps Go.Shelf

/-- any token -/
structure Tz where
  k : Int
  b : ByteArray
  x : ByteArray
  a : Int
instance : Inhabited Tz := ⟨⟨0, ByteArray.empty, ByteArray.empty, 0⟩⟩
def Tz.cells (t : Tz) : List Value := [.int .i64 t.k, .string t.b, .string t.x, .int .i64 t.a]
def cellsZ (l : List Tz) : List Value := l.flatMap Tz.cells
theorem cellsZ_length (l : List Tz) : (cellsZ l).length = l.length * 4 := by
  induction l with
  | nil => rfl
  | cons x l ih => simp [cellsZ, Tz.cells] at ih ⊢; omega
theorem cellsZ_get : ∀ (l : List Tz) (i : Nat) (h : i < l.length), (cellsZ l)[i * 4]? = some (.int .i64 l[i].k) ∧ (cellsZ l)[i * 4 + 1]? = some (.string l[i].b) ∧ (cellsZ l)[i * 4 + 2]? = some (.string l[i].x) ∧ (cellsZ l)[i * 4 + 3]? = some (.int .i64 l[i].a)
  | [], _, h => by simp at h
  | x :: l, 0, _ => by simp [cellsZ, Tz.cells]
  | x :: l, i + 1, h => by
    have ih := cellsZ_get l i (by simpa using h)
    have e : ∀ j, (cellsZ (x :: l))[j + 4]? = (cellsZ l)[j]? := fun j => by
      show (Tz.cells x ++ cellsZ l)[j + 4]? = _
      rw [List.getElem?_append_right (by simp [Tz.cells])]
      simp [Tz.cells]
    rw [show (i + 1) * 4 = i * 4 + 4 by omega, show i * 4 + 4 + 1 = i * 4 + 1 + 4 by omega, show i * 4 + 4 + 2 = i * 4 + 2 + 4 by omega, show i * 4 + 4 + 3 = i * 4 + 3 + 4 by omega, e, e, e, e]
    exact ih
/-- tokens read in memory -/
def ZRd (w : World) (B : Nat) (A : Option Addr) (l : List Tz) : Prop := Rd w B A (cellsZ l)
theorem ZRd.at_ {w : World} {B : Nat} {A : Option Addr} {l : List Tz} (h : ZRd w B A l) (i : Nat) (hi : i < l.length) : ∃ b off, A = some ⟨b, off, none⟩ ∧ b < B ∧ w.cell? ⟨b, off + i * 4, none⟩ = some (.int .i64 l[i].k) ∧ w.cell? ⟨b, off + i * 4 + 1, none⟩ = some (.string l[i].b) ∧ w.cell? ⟨b, off + i * 4 + 2, none⟩ = some (.string l[i].x) ∧ w.cell? ⟨b, off + i * 4 + 3, none⟩ = some (.int .i64 l[i].a) := by
  obtain ⟨b, off, e, hb, hc⟩ := h (by rw [cellsZ_length]; omega)
  obtain ⟨h0, h1, h2, h3⟩ := cellsZ_get l i hi
  refine ⟨b, off, e, hb, ?_, ?_, ?_, ?_⟩
  · simpa using hc _ _ h0
  · have := hc _ _ h1; rw [← Nat.add_assoc] at this; exact this
  · have := hc _ _ h2; rw [← Nat.add_assoc] at this; exact this
  · have := hc _ _ h3; rw [← Nat.add_assoc] at this; exact this
theorem ZRd.below {w w' : World} {B : Nat} {A : Option Addr} {l : List Tz} (h : ZRd w B A l) (hb : Below B w w') : ZRd w' B A l := Rd.below h hb
theorem ZRd.up {w : World} {B C : Nat} {A : Option Addr} {l : List Tz} (h : ZRd w B A l) (hb : B ≤ C) : ZRd w C A l := Rd.more h hb

/-- how many bytes tokens have -/
def sumZ : List Tz → Nat
  | [] => 0
  | t :: l => t.b.size + t.x.size + sumZ l
theorem sumZ_append (l r : List Tz) : sumZ (l ++ r) = sumZ l + sumZ r := by
  induction l with
  | nil => simp [sumZ]
  | cons t l ih => simp only [List.cons_append, sumZ, ih]; omega
/-- where a token's bytes begin -/
def begZ (l : List Tz) (i : Nat) : Nat := sumZ (l.take i)
theorem begZ_zero (l : List Tz) : begZ l 0 = 0 := rfl
theorem begZ_succ (l : List Tz) (i : Nat) (h : i < l.length) : begZ l (i + 1) = begZ l i + l[i].b.size + l[i].x.size := by
  unfold begZ
  rw [List.take_succ_eq_append_getElem h, sumZ_append]
  simp only [sumZ]
  omega
theorem begZ_all (l : List Tz) : begZ l l.length = sumZ l := by unfold begZ; rw [List.take_length]
theorem begZ_mono (l : List Tz) : ∀ (j i : Nat), i ≤ j → begZ l i ≤ begZ l j := by
  intro j i h
  unfold begZ
  have e : l.take j = l.take i ++ (l.take j).drop i := by
    have : l.take i = (l.take j).take i := by rw [List.take_take, Nat.min_eq_left h]
    rw [this, List.take_append_drop]
  rw [e, sumZ_append]
  omega
theorem begZ_le (l : List Tz) (i : Nat) : begZ l i ≤ sumZ l := by
  have e : l = l.take i ++ l.drop i := (List.take_append_drop i l).symm
  have : sumZ l = sumZ (l.take i) + sumZ (l.drop i) := by rw [← sumZ_append, ← e]
  unfold begZ
  omega

/-- whether tokens stand where a text's stand, from a place on -/
def okZ : Nat → List Tz → Bool
  | _, [] => true
  | p, t :: l => decide (t.a = ((p + t.b.size : Nat) : Int)) && (decide (t.k = 0) == l.isEmpty) && okZ (p + t.b.size + t.x.size) l
def lastZ (l : List Tz) : Bool := match l.getLast? with | some t => decide (t.x = ByteArray.empty) | none => false
def wholeZ (l : List Tz) : Bool := okZ 0 l && lastZ l
theorem okZ_step (l : List Tz) (i : Nat) (h : i < l.length) : okZ (begZ l i) (l.drop i) = (decide (l[i].a = ((begZ l i + l[i].b.size : Nat) : Int)) && (decide (l[i].k = 0) == decide (i + 1 = l.length)) && okZ (begZ l (i + 1)) (l.drop (i + 1))) := by
  have e : (l.drop (i + 1)).isEmpty = decide (i + 1 = l.length) := by
    rw [Bool.eq_iff_iff]
    simp only [List.isEmpty_iff, List.drop_eq_nil_iff, decide_eq_true_eq]
    omega
  rw [List.drop_eq_getElem_cons h, okZ, begZ_succ l i h, e]
theorem okZ_at (l : List Tz) (h : okZ 0 l = true) : ∀ i, i ≤ l.length → okZ (begZ l i) (l.drop i) = true
  | 0, _ => h
  | i + 1, hi => by
    have := okZ_at l h i (by omega)
    rw [okZ_step l i (by omega)] at this
    simp only [Bool.and_eq_true] at this
    exact this.2
theorem okZ_place (l : List Tz) (h : okZ 0 l = true) (i : Nat) (hi : i < l.length) : l[i].a = ((begZ l i + l[i].b.size : Nat) : Int) := by
  have := okZ_at l h i (by omega)
  rw [okZ_step l i hi] at this
  simp only [Bool.and_eq_true, decide_eq_true_eq] at this
  exact this.1.1
theorem lastZ_at (l : List Tz) (k : Nat) (h : l.length = k + 1) : lastZ l = decide ((l[k]'(by omega)).x = ByteArray.empty) := by
  unfold lastZ
  rw [List.getLast?_eq_getElem?, show l.length - 1 = k by omega, List.getElem?_eq_getElem (by omega)]
theorem lastZ_nil : lastZ [] = false := rfl

end Go.Proofs.YtjdpkhjoecfhlaaGreatDoor
