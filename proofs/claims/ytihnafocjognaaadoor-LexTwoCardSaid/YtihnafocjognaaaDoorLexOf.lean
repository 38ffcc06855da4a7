/- LexTwo, plain: what the tokens of both texts are, place by place. -/
import Derived.Test.YtihnafocjognaaaDoorLexOp
namespace Go.Proofs.YtihnafocjognaaaDoor
open Go.RowKit Go.Maps Go.Shelf

def shiftT (d : Nat) (t : Tk) : Tk := { t with a := t.a + d }
theorem tokR_shift (d : Nat) : ∀ (n : Nat) (f : Bool) (a : Nat) (l : List UInt8), l.length ≤ n → tokR f (a + d) l = (tokR f a l).map (shiftT d)
  | n, f, a, l, hn => by
    rw [tokR_step, tokR_step f a]
    by_cases g : l.length ≤ (skipF f l).1
    · rw [if_pos g, if_pos g]
      simp only [List.map_cons, List.map_nil, endTk, shiftT, List.cons.injEq, Tk.mk.injEq, true_and, and_true]
      omega
    · rw [if_neg g, if_neg g, List.map_cons]
      have hl := left_less f l g
      cases n with
      | zero => omega
      | succ n =>
        rw [show a + d + (skipF f l).1 + (tokF (skipF f l).2 (l.drop (skipF f l).1)).2 = a + (skipF f l).1 + (tokF (skipF f l).2 (l.drop (skipF f l).1)).2 + d by omega, tokR_shift d n false _ _ (by omega)]
        simp only [theTk, shiftT, List.cons.injEq, Tk.mk.injEq, true_and, and_true]
        omega

theorem glue_app : ∀ (X : List Tk) (e : Tk) (Y : List Tk), glue (X ++ [e]) Y = X ++ addB (e.b.data.toList ++ [10]) Y
  | [], _, _ => rfl
  | t :: X, e, Y => by
    rw [List.cons_append, glue_cons _ _ _ (by simp), glue_app X e Y]
    rfl

/-- both texts' tokens, place by place -/
structure Two (n : Nat) (x y z : List Tk) (kx : Nat) : Prop where
  lx : x.length = kx + 1
  ly : 0 < y.length
  lz : z.length = kx + y.length
  low : ∀ (i : Nat) (_ : i < kx) (h2 : i < z.length) (h3 : i < x.length), z[i] = x[i]
  k : ∀ (j : Nat) (h : j < y.length) (h2 : kx + j < z.length), z[kx + j].k = y[j].k ∧ z[kx + j].x = y[j].x ∧ z[kx + j].a = y[j].a + n + 1
  b0 : ∀ (h : 0 < y.length) (h2 : kx + 0 < z.length) (h3 : kx < x.length), z[kx + 0].b = x[kx].b ++ ⟨#[10]⟩ ++ y[0].b
  b : ∀ (j : Nat) (h : j < y.length) (h2 : kx + j < z.length), 0 < j → z[kx + j].b = y[j].b

theorem two_facts (A B : List UInt8) (hT : Tail A) (ho : openE (A.length + 1) true A = false) (x y z : List Tk) (hx : x = tokR true 0 A) (hy : y = tokR true 0 B) (hz : z = tokR true 0 (A ++ 10 :: B)) : ∃ kx, Two A.length x y z kx := by
  have h1 := two_toks B (A.length + 1) true 0 A (by omega) hT ho
  rw [Nat.zero_add, show A.length + 1 = 0 + (A.length + 1) by omega, tokR_shift (A.length + 1) B.length true 0 B (Nat.le_refl _), ← hx, ← hy, ← hz] at h1
  have hxn : x ≠ [] := by rw [hx]; exact tokR_ne _ _ _
  have hyn : y ≠ [] := by rw [hy]; exact tokR_ne _ _ _
  obtain ⟨X, e, hXe⟩ : ∃ X e, x = X ++ [e] := ⟨x.dropLast, x.getLast hxn, (List.dropLast_concat_getLast hxn).symm⟩
  cases y with
  | nil => exact absurd rfl hyn
  | cons y0 ys =>
    clear hx hy hz hyn hxn hT ho
    subst hXe
    rw [glue_app, List.map_cons] at h1
    simp only [addB] at h1
    subst h1
    refine ⟨X.length, by simp, by simp, by simp, ?_, ?_, ?_, ?_⟩
    · intro i h1 h2 h3
      rw [List.getElem_append_left h1, List.getElem_append_left h1]
    · intro j h h2
      rw [List.getElem_append_right (by omega)]
      cases j with
      | zero => simp [shiftT]; omega
      | succ j => simp [shiftT]; omega
    · intro h h2 h3
      rw [List.getElem_append_right (by omega), List.getElem_append_right (by omega)]
      apply ba_extL
      simp [shiftT, ByteArray.data_append]
    · intro j h h2 hj
      rw [List.getElem_append_right (by omega)]
      cases j with
      | zero => omega
      | succ j => simp [shiftT]

end Go.Proofs.YtihnafocjognaaaDoor
