/- Lex: the next token. -/
import Derived.Test.YtjdpkhjoecfhlaaGreatDoorLexS
namespace Go.Proofs.YtjdpkhjoecfhlaaGreatDoor
open Go.RowKit Go.Maps Go.Shelf

/-! ### what the tellers tell, one behind the other -/
def quoQ (q : UInt8) (l : List UInt8) : Nat := if l.head? = some q ∧ (quoN l).2 = true then (quoN l).1 else 0
def tellT (f : Bool) (l : List UInt8) : Nat → Nat × Nat
  | 0 => lineT f l
  | 1 => wordTl l
  | 2 => (3, numN l)
  | 3 => (4, quoQ 39 l)
  | 4 => (5, quoQ 34 l)
  | 5 => signT l
  | _ => (8, 1)
/-- the first one that is told, from teller k on (n: how many follow) -/
def firstT (f : Bool) (l : List UInt8) : Nat → Nat → Nat × Nat
  | 0, k => tellT f l k
  | n + 1, k => if (tellT f l k).2 ≠ 0 then tellT f l k else firstT f l n (k + 1)

theorem lineGo_pos (l : List UInt8) (h : l.head? = some 35) : ∀ f e, 1 ≤ lineGo f l e
  | 0, e => by
    cases l with
    | nil => simp at h
    | cons c l => simp [lineGo]
  | f + 1, e => by
    have hl : 1 ≤ l.length := by cases l with
      | nil => simp at h
      | cons c l => simp
    have hu : 1 ≤ e + upTo (l.drop e) := by
      cases e with
      | zero =>
        cases l with
        | nil => simp at h
        | cons c l =>
          simp at h; subst h
          simp [upTo]
      | succ e => omega
    rw [lineGo]
    split
    · exact hl
    · split
      · exact lineGo_pos l h f _
      · cases l with
        | nil => simp at h
        | cons c l =>
          simp at h; subst h
          obtain ⟨m, hm⟩ : ∃ m, e + upTo ((35 :: l).drop e) = m + 1 := ⟨e + upTo ((35 :: l).drop e) - 1, by omega⟩
          rw [hm, List.take_succ_cons]
          unfold trim13
          split
          · rename_i h2
            cases ht : l.take m with
            | nil => rw [ht] at h2; simp at h2
            | cons d t => simp
          · simp

theorem tokF_first (f : Bool) (l : List UInt8) : firstT f l 6 0 = tokF f l := by
  have hq : ∀ q : UInt8, l.head? = some q → (quoN l).1 ≠ 0 := fun q h => by
    cases l with
    | nil => simp at h
    | cons c l => simp [quoN]
  simp only [firstT, tellT, tokF, lineT, wordTl, signT, quoQ]
  by_cases h1 : f = true ∧ l.head? = some 35
  · rw [if_pos h1, if_pos h1]
    have := lineGo_pos l h1.2 (l.length + 1) 0
    rw [if_pos (by show lineN l ≠ 0; unfold lineN; omega)]
  · rw [if_neg h1, if_neg h1, if_neg (by simp)]
    by_cases h2 : wordN l ≠ 0
    · rw [if_pos h2, if_pos h2]
    · rw [if_neg h2, if_neg h2]
      by_cases h3 : numN l ≠ 0
      · rw [if_pos h3, if_pos h3]
      · rw [if_neg h3, if_neg h3]
        by_cases h4 : l.head? = some 39 ∧ (quoN l).2 = true
        · rw [if_pos h4, if_pos h4, if_pos (hq 39 h4.1)]
        · rw [if_neg h4, if_neg h4, if_neg (by simp)]
          by_cases h5 : l.head? = some 34 ∧ (quoN l).2 = true
          · rw [if_pos h5, if_pos h5, if_pos (hq 34 h5.1)]
          · rw [if_neg h5, if_neg h5, if_neg (by simp)]
            by_cases h6 : signN l ≠ 0
            · rw [if_pos h6, if_pos h6]
            · rw [if_neg h6, if_neg h6, if_neg (by simp)]

/-! ### up to where quotes are odd -/
def OddInv (L : List UInt8) (q : UInt8) (o i : Nat) : Prop := o ≤ L.length ∧ ∀ j, i ≤ j → j < o → L[j]? = some q → (quoT q false (L.drop (j + 1))).2 = false
theorem OddInv.mono {L : List UInt8} {q : UInt8} {o i i' : Nat} (h : OddInv L q o i) (hi : i ≤ i') : OddInv L q o i' := ⟨h.1, fun j h1 h2 h3 => h.2 j (by omega) h2 h3⟩
theorem OddInv.zero (L : List UInt8) (q : UInt8) (i : Nat) : OddInv L q 0 i := ⟨Nat.zero_le _, fun _ _ h _ => absurd h (Nat.not_lt_zero _)⟩

theorem quo_spec {L : List UInt8} {q : UInt8} {o i : Nat} (h : OddInv L q o i) (hi : i < L.length) :
    (quoTl q o i (L.drop i)).1 = quoQ q (L.drop i) ∧ OddInv L q (quoTl q o i (L.drop i)).2 i := by
  have hd := List.drop_eq_getElem_cons hi
  have hqn := quoN_le (L.drop i) (List.ne_nil_of_length_pos (by rw [List.length_drop]; omega))
  rw [List.length_drop] at hqn
  have hh : (L.drop i).head? = some (L[i]'hi) := congrArg List.head? hd
  unfold quoTl quoQ
  rw [hh]
  by_cases g1 : L[i] = q
  · have hN2 : (quoN (L.drop i)).2 = (quoT q false (L.drop (i + 1))).2 := by rw [hd, quoN, g1]
    have hN1 : (quoN (L.drop i)).1 = (quoT q false (L.drop (i + 1))).1 + 1 := by rw [hd, quoN, g1]
    by_cases g2 : i < o
    · have h2 := h.2 i (Nat.le_refl _) g2 (by rw [List.getElem?_eq_getElem hi, g1])
      rw [if_pos (.inr g2), if_neg (by rw [hN2, h2]; simp)]
      exact ⟨rfl, h⟩
    · rw [if_neg (fun g => g.elim (fun g => g (by rw [g1])) g2)]
      by_cases g3 : (quoN (L.drop i)).2 = true
      · rw [if_pos g3, if_pos ⟨by rw [g1], g3⟩]
        exact ⟨rfl, h⟩
      · rw [if_neg g3, if_neg (fun g => g3 g.2)]
        refine ⟨rfl, by omega, fun j h1 h2 h3 => ?_⟩
        have hf : (quoT q false (L.drop (i + 1))).2 = false := by rw [← hN2]; simpa using g3
        rcases Nat.eq_or_lt_of_le h1 with rfl | h4
        · exact hf
        · have := quoT_later q false (L.drop (i + 1)) (j - (i + 1)) hf (by omega) (by rw [List.getElem?_drop]; rw [show i + 1 + (j - (i + 1)) = j by omega]; exact h3)
          rw [List.drop_drop, show i + 1 + (j - (i + 1) + 1) = j + 1 by omega] at this
          exact this
  · rw [if_pos (.inl (by simpa using g1)), if_neg (by simp [g1])]
    exact ⟨rfl, h⟩

/-- the scanner's tellers, in block T -/
def Tellers (w : World) (p T : Nat) : Prop := Blk w T 165 #[.func (.func 92) #[.pointer (some ⟨p, 0, none⟩)] #[], .func (.func 93) #[.pointer (some ⟨p, 0, none⟩)] #[], .func (.func 94) #[.pointer (some ⟨p, 0, none⟩)] #[],
  .func (.func 95) #[.pointer (some ⟨p, 0, none⟩)] #[], .func (.func 96) #[.pointer (some ⟨p, 0, none⟩)] #[], .func (.func 97) #[.pointer (some ⟨p, 0, none⟩)] #[], .func (.func 98) #[.pointer (some ⟨p, 0, none⟩)] #[]]

/-- all that the scanner leans on -/
structure LexW (n0 p K T : Nat) (w : World) : Prop where
  np : n0 ≤ p
  plt : p < w.heap.size
  pK : p ≠ K
  pT : p ≠ T
  keys : KeySet w K
  tell : Tellers w p T
  signs : WordsAt w n0 1 signsB
  maxN : 2 < n0
  maxV : ∃ m, w.cell? ⟨2, 0, none⟩ = some (.int .i64 m)

theorem LexW.grown {n0 p K T : Nat} {w w' : World} (h : LexW n0 p K T w) (hg : w.grownBy w' (some p)) : LexW n0 p K T w' :=
  ⟨h.np, Nat.lt_of_lt_of_le h.plt hg.size, h.pK, h.pT, h.keys.kept hg (by simp; exact fun e => h.pK e.symm), Blk.kept h.tell hg (by simp; exact fun e => h.pT e.symm),
    h.signs.below (below_grown hg h.np (Nat.le_of_lt (Nat.lt_of_le_of_lt h.np h.plt))), h.maxN, by
      obtain ⟨m, hm⟩ := h.maxV
      exact ⟨m, World.grownBy.cell hg hm (by have := h.maxN; have := h.np; simp; omega)⟩⟩

theorem quoQ_done {L : List UInt8} {q : UInt8} {o i : Nat} (h : OddInv L q o i) (hi : i < L.length) : (quoTl q o i (L.drop i)).1 = quoQ q (L.drop i) := (quo_spec h hi).1

end Go.Proofs.YtjdpkhjoecfhlaaGreatDoor
