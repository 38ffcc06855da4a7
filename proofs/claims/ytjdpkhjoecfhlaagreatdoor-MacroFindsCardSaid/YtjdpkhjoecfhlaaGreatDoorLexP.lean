/- Lex: the places of a text's tokens; tokens read in memory. -/
import Derived.Test.YtjdpkhjoecfhlaaGreatDoorLexR
import Derived.Test.YtjdpkhjoecfhlaaGreatDoorEd
namespace Go.Proofs.YtjdpkhjoecfhlaaGreatDoor
open Go.RowKit

/-- tokens that stand one behind the other in a text, the end last; token j's text and what is before it fill the places from P j to P (j + 1) -/
structure Laid (s : ByteArray) (l : List Tk) (P : Nat → Nat) : Prop where
  pos : 0 < l.length
  lo : ∀ j (h : j < l.length), P j ≤ l[j].a
  hi : ∀ j (h : j < l.length), l[j].a ≤ P (j + 1) ∧ P (j + 1) ≤ s.size
  b : ∀ j (h : j < l.length), l[j].b = s.extract (P j) l[j].a
  x : ∀ j (h : j < l.length), l[j].x = s.extract l[j].a (P (j + 1))
  mid : ∀ j (h : j + 1 < l.length), 1 ≤ l[j].k ∧ l[j].k ≤ 8 ∧ l[j].a < P (j + 1)
  last : ∀ j (h : j < l.length), j + 1 = l.length → l[j].k = 0 ∧ l[j].a = s.size

theorem laid_end (s : ByteArray) (f : Bool) (i : Nat) (hi : i ≤ s.size) (g : (s.data.toList.drop i).length ≤ (skipF f (s.data.toList.drop i)).1) : ∃ P, P 0 = i ∧ Laid s (tokR f i (s.data.toList.drop i)) P := by
  have h0 := skipF_le f (s.data.toList.drop i)
  rw [tokR_step, if_pos g]
  rw [List.length_drop] at g h0
  simp at g h0
  have ea : (endTk f i (s.data.toList.drop i)).a = s.size := by show i + _ = _; omega
  have eb : (endTk f i (s.data.toList.drop i)).b = s.extract i s.size := by
    rw [← ea]; show (⟨_⟩ : ByteArray) = s.extract i (i + _); rw [ext_mid]
  have ex : (endTk f i (s.data.toList.drop i)).x = s.extract s.size s.size := by
    show (⟨#[]⟩ : ByteArray) = _
    apply ByteArray.ext
    rw [ByteArray.data_extract]; simp
  have ek : (endTk f i (s.data.toList.drop i)).k = 0 := rfl
  generalize endTk f i (s.data.toList.drop i) = T at *
  refine ⟨fun j => if j = 0 then i else s.size, rfl, ?_⟩
  constructor
  · simp
  · intro j h; simp at h; subst h; simp [ea]; omega
  · intro j h; simp at h; subst h; simp [ea]
  · intro j h; simp at h; subst h; simp [ea, eb]
  · intro j h; simp at h; subst h; simp [ea, ex]
  · intro j h; simp at h
  · intro j h _; simp at h; subst h; simp [ea, ek]

theorem laid_tokR (s : ByteArray) : ∀ (n : Nat) (f : Bool) (i : Nat), s.size - i ≤ n → i ≤ s.size → ∃ P, P 0 = i ∧ Laid s (tokR f i (s.data.toList.drop i)) P := by
  intro n
  induction n with
  | zero =>
    intro f i h hi
    exact laid_end s f i hi (by rw [List.length_drop]; simp; omega)
  | succ n ih =>
      intro f i h hi
      have h0 := skipF_le f (s.data.toList.drop i)
      rw [List.length_drop] at h0
      simp at h0
      by_cases g : (s.data.toList.drop i).length ≤ (skipF f (s.data.toList.drop i)).1
      · exact laid_end s f i hi g
      · have g' := g
        rw [List.length_drop] at g'
        simp at g'
        have hne : (s.data.toList.drop i).drop (skipF f (s.data.toList.drop i)).1 ≠ [] := List.ne_nil_of_length_pos (by rw [List.length_drop, List.length_drop]; simp; omega)
        have htl := tokF_le (skipF f (s.data.toList.drop i)).2 _ hne
        have hk := tokF_kind (skipF f (s.data.toList.drop i)).2 ((s.data.toList.drop i).drop (skipF f (s.data.toList.drop i)).1)
        rw [tokR_step, if_neg g]
        have hlen : ((s.data.toList.drop i).drop (skipF f (s.data.toList.drop i)).1).length = s.size - i - (skipF f (s.data.toList.drop i)).1 := by
          rw [List.length_drop, List.length_drop]; simp
        rw [hlen] at htl
        have eb : (theTk f i (s.data.toList.drop i)).b = s.extract i (i + (skipF f (s.data.toList.drop i)).1) := by rw [ext_mid]; rfl
        have ex : (theTk f i (s.data.toList.drop i)).x = s.extract (i + (skipF f (s.data.toList.drop i)).1) (i + (skipF f (s.data.toList.drop i)).1 + (tokF (skipF f (s.data.toList.drop i)).2 ((s.data.toList.drop i).drop (skipF f (s.data.toList.drop i)).1)).2) := by
          rw [ext_mid, ← List.drop_drop]; rfl
        have ea : (theTk f i (s.data.toList.drop i)).a = i + (skipF f (s.data.toList.drop i)).1 := rfl
        have ek : (theTk f i (s.data.toList.drop i)).k = (tokF (skipF f (s.data.toList.drop i)).2 ((s.data.toList.drop i).drop (skipF f (s.data.toList.drop i)).1)).1 := rfl
        rw [List.drop_drop, List.drop_drop]
        rw [List.drop_drop] at htl hk ex ek
        generalize theTk f i (s.data.toList.drop i) = T at *
        generalize tokF (skipF f (s.data.toList.drop i)).2 (s.data.toList.drop (i + (skipF f (s.data.toList.drop i)).1)) = kz at *
        generalize (skipF f (s.data.toList.drop i)).1 = z at *
        obtain ⟨P, hP0, hL⟩ := ih false (i + z + kz.2) (by omega) (by omega)
        generalize tokR false (i + z + kz.2) (s.data.toList.drop (i + z + kz.2)) = r at *
        refine ⟨fun j => match j with | 0 => i | j + 1 => P j, rfl, ?_⟩
        constructor
        · simp
        · intro j h
          cases j with
          | zero => simp [ea]
          | succ j => exact hL.lo j (by simpa using h)
        · intro j h
          cases j with
          | zero => simp only [List.getElem_cons_zero, ea, hP0]; omega
          | succ j => exact hL.hi j (by simpa using h)
        · intro j h
          cases j with
          | zero => simp only [List.getElem_cons_zero, ea, eb]
          | succ j => exact hL.b j (by simpa using h)
        · intro j h
          cases j with
          | zero => simp only [List.getElem_cons_zero, ea, ex, hP0]
          | succ j => exact hL.x j (by simpa using h)
        · intro j h
          cases j with
          | zero => simp only [List.getElem_cons_zero, ea, ek, hP0]; omega
          | succ j => exact hL.mid j (by simpa using h)
        · intro j h hj
          cases j with
          | zero => have := hL.pos; simp only [List.length_cons] at hj; omega
          | succ j => exact hL.last j (by simpa using h) (by simpa using hj)

theorem Laid.mono {s : ByteArray} {l : List Tk} {P : Nat → Nat} (h : Laid s l P) : ∀ (j i : Nat), i ≤ j → j ≤ l.length → P i ≤ P j := by
  intro j
  induction j with
  | zero => intro i h1 _; rw [Nat.le_zero.1 h1]; exact Nat.le_refl _
  | succ j ih =>
    intro i h1 h2
    by_cases e : i = j + 1
    · rw [e]; exact Nat.le_refl _
    · have h3 := ih i (by omega) (by omega)
      have h4 := h.lo j (by omega)
      have h5 := (h.hi j (by omega)).1
      omega
theorem Laid.top {s : ByteArray} {l : List Tk} {P : Nat → Nat} (h : Laid s l P) : P l.length = s.size := by
  have hp := h.pos
  have h1 := (h.last (l.length - 1) (by omega) (by omega)).2
  have h2 := h.hi (l.length - 1) (by omega)
  rw [h1, show l.length - 1 + 1 = l.length by omega] at h2
  omega
theorem Laid.le {s : ByteArray} {l : List Tk} {P : Nat → Nat} (h : Laid s l P) {j : Nat} (hj : j ≤ l.length) : P j ≤ s.size := by
  rw [← h.top]; exact h.mono _ _ hj (Nat.le_refl _)

/-- tokens read in memory -/
def TRd (w : World) (B : Nat) (A : Option Addr) (l : List Tk) : Prop := Rd w B A (cellsT l)
theorem TRd.at_ {w : World} {B : Nat} {A : Option Addr} {l : List Tk} (h : TRd w B A l) (i : Nat) (hi : i < l.length) : ∃ b off, A = some ⟨b, off, none⟩ ∧ b < B ∧ w.cell? ⟨b, off + i * 4, none⟩ = some (.int .i64 l[i].k) ∧ w.cell? ⟨b, off + i * 4 + 1, none⟩ = some (.string l[i].b) ∧ w.cell? ⟨b, off + i * 4 + 2, none⟩ = some (.string l[i].x) ∧ w.cell? ⟨b, off + i * 4 + 3, none⟩ = some (.int .i64 l[i].a) := by
  obtain ⟨b, off, e, hb, hc⟩ := h (by rw [cellsT_length]; omega)
  obtain ⟨h0, h1, h2, h3⟩ := cellsT_get l i hi
  refine ⟨b, off, e, hb, ?_, ?_, ?_, ?_⟩
  · simpa using hc _ _ h0
  · have := hc _ _ h1; rw [← Nat.add_assoc] at this; exact this
  · have := hc _ _ h2; rw [← Nat.add_assoc] at this; exact this
  · have := hc _ _ h3; rw [← Nat.add_assoc] at this; exact this
theorem TRd.below {w w' : World} {B : Nat} {A : Option Addr} {l : List Tk} (h : TRd w B A l) (hb : Below B w w') : TRd w' B A l := Rd.below h hb

end Go.Proofs.YtjdpkhjoecfhlaaGreatDoor
