/- Lex, plain: the tokens of a text before a line feed and another text. -/
import Derived.Test.YtjdpkhjoecfhlaaGreatDoorLexW
import Derived.Test.YtjdpkhjoecfhlaaGreatDoorLexEq
namespace Go.Proofs.YtjdpkhjoecfhlaaGreatDoor
open Go.RowKit Go.Maps Go.Shelf

/-- bytes put before the first token -/
def addB (p : List UInt8) : List Tk → List Tk
  | [] => []
  | t :: ts => { t with b := ⟨(p ++ t.b.data.toList).toArray⟩ } :: ts
theorem addB_nil (l : List Tk) : addB [] l = l := by
  cases l with
  | nil => rfl
  | cons t l => simp [addB]
theorem addB_addB (p q : List UInt8) (l : List Tk) : addB p (addB q l) = addB (p ++ q) l := by
  cases l with
  | nil => rfl
  | cons t l => simp [addB]
theorem addB_ne (p : List UInt8) (l : List Tk) (h : l ≠ []) : addB p l ≠ [] := by
  cases l with
  | nil => exact absurd rfl h
  | cons t l => simp [addB]

theorem R_nil (f : Bool) (a : Nat) : tokR f a [] = [⟨0, ⟨#[]⟩, ⟨#[]⟩, a⟩] := by
  rw [tokR_step, if_pos (by simp)]
  have : (skipF f []).1 = 0 := Nat.le_zero.1 (skipF_le f [])
  simp [endTk, this]
theorem R_piece (f : Bool) (a : Nat) (l : List UInt8) (h : (pieceF f l).1 ≠ 0) : tokR f a l = addB (l.take (pieceF f l).1) (tokR (pieceF f l).2 (a + (pieceF f l).1) (l.drop (pieceF f l).1)) := by
  have hs := skipF_step f l
  rw [if_neg h] at hs
  have hle := pieceF_le f l
  rw [tokR_step, tokR_step (pieceF f l).2, hs]
  generalize pieceF f l = p at *
  obtain ⟨p, g⟩ := p
  simp only at *
  generalize hk : skipF g (l.drop p) = k at *
  obtain ⟨k, g2⟩ := k
  simp only at *
  rw [List.length_drop]
  by_cases c : l.length ≤ p + k
  · rw [if_pos c, if_pos (by omega)]
    simp only [addB, endTk, hs, hk, List.cons.injEq, and_true, Tk.mk.injEq, true_and]
    refine ⟨?_, by omega⟩
    rw [List.take_add]
  · rw [if_neg c, if_neg (by omega)]
    simp only [addB, theTk, hs, hk, List.drop_drop, Nat.add_assoc, List.cons.injEq, Tk.mk.injEq, true_and, and_true]
    rw [List.take_add]
theorem R_tok (f : Bool) (a : Nat) (l : List UInt8) (h : (pieceF f l).1 = 0) (hl : l ≠ []) : tokR f a l = ⟨(tokF f l).1, ⟨#[]⟩, ⟨(l.take (tokF f l).2).toArray⟩, a⟩ :: tokR false (a + (tokF f l).2) (l.drop (tokF f l).2) := by
  have hs := skipF_step f l
  rw [if_pos h] at hs
  have ht := tok_flag f l h
  have hp := List.length_pos_iff.2 hl
  rw [tokR_step, hs]
  simp only [List.drop_zero, ht]
  rw [if_neg (by omega)]
  simp only [theTk, hs, List.drop_zero, List.take_zero, ht, Nat.add_zero]

/-- the first list's end and the second list's beginning are one -/
def glueT : List Tk → List Tk → List Tk
  | [], ys => ys
  | [e], ys => addB (e.b.data.toList ++ [10]) ys
  | t :: t2 :: ts, ys => t :: glueT (t2 :: ts) ys
theorem glue_cons (t : Tk) (l ys : List Tk) (h : l ≠ []) : glueT (t :: l) ys = t :: glueT l ys := by
  cases l with
  | nil => exact absurd rfl h
  | cons t2 ts => rfl
theorem glue_addB (p : List UInt8) (l ys : List Tk) (h : l ≠ []) : glueT (addB p l) ys = addB p (glueT l ys) := by
  cases l with
  | nil => exact absurd rfl h
  | cons t l =>
    cases l with
    | nil =>
      show addB ((p ++ t.b.data.toList) ++ [10]) ys = addB p (addB (t.b.data.toList ++ [10]) ys)
      rw [addB_addB, List.append_assoc]
    | cons t2 ts => simp [addB, glueT]

/-- whether a comment's end stands in a text -/
def closedT : List UInt8 → Bool
  | [] => false
  | [_] => false
  | c :: d :: l => (decide (c.toNat = 42) && decide (d.toNat = 47)) || closedT (d :: l)
theorem starT_closed : ∀ (l x : List UInt8), closedT l = true → starT (l ++ x) = starT l
  | [], _, h => by cases h
  | [_], _, h => by cases h
  | c :: d :: l, x, h => by
    rw [List.cons_append, List.cons_append, starT, starT]
    by_cases g : c.toNat = 42 ∧ d.toNat = 47
    · rw [if_pos g, if_pos g]
    · rw [if_neg g, if_neg g]
      have h2 : closedT (d :: l) = true := by
        rw [closedT] at h
        rcases Bool.or_eq_true_iff.1 h with h | h
        · simp at h; exact absurd h g
        · exact h
      rw [← List.cons_append, starT_closed (d :: l) x h2]
theorem starT_open : ∀ (l : List UInt8), closedT l = false → starT l = l.length
  | [], _ => rfl
  | [_], _ => rfl
  | c :: d :: l, h => by
    rw [closedT, Bool.or_eq_false_iff] at h
    have g : ¬ (c.toNat = 42 ∧ d.toNat = 47) := fun g => by simp [g.1, g.2] at h
    rw [starT, if_neg g, starT_open (d :: l) h.2]
    rfl
theorem starT_open_end : ∀ (l : List UInt8), closedT l = false → starT (l ++ [42, 47]) = l.length + 2
  | [], _ => rfl
  | [c], _ => by
    rw [List.cons_append, List.nil_append, starT, if_neg (by simp), starT, if_pos (by decide)]
    rfl
  | c :: d :: l, h => by
    rw [closedT, Bool.or_eq_false_iff] at h
    have g : ¬ (c.toNat = 42 ∧ d.toNat = 47) := fun g => by simp [g.1, g.2] at h
    rw [List.cons_append, List.cons_append, starT, if_neg g, ← List.cons_append, starT_open_end (d :: l) h.2]
    simp only [List.length_cons]
/-- a text that begins with a comment that has no end -/
def unclosed : List UInt8 → Bool
  | 47 :: 42 :: r => !closedT r
  | _ => false

def Tail (l : List UInt8) : Prop := l.getLast? ≠ some 92 ∧ l.getLast? ≠ some 13
theorem Tail.drop {l : List UInt8} (h : Tail l) (n : Nat) : Tail (l.drop n) := by
  unfold Tail at *
  rw [List.getLast?_drop]
  split
  · exact ⟨by simp, by simp⟩
  · exact h

theorem upTo_lf : ∀ (l t : List UInt8), upTo (l ++ 10 :: t) = upTo l
  | [], t => rfl
  | c :: l, t => by
    rw [List.cons_append, upTo, upTo, upTo_lf l t]
theorem joinN_lf (l t : List UInt8) (h : Tail l) (hl : l ≠ []) : joinN (l ++ 10 :: t) = joinN l := by
  match l with
  | [] => exact absurd rfl hl
  | [c] =>
    have : ¬ c = 92 := fun e => h.1 (by rw [e]; rfl)
    simp only [joinN, List.cons_append, List.nil_append]
    split <;> simp_all
  | [c, d] =>
    have : ¬ d = 13 := fun e => h.2 (by rw [e]; rfl)
    simp only [joinN, List.cons_append, List.nil_append]
    split <;> split <;> simp_all
  | c :: d :: e :: l =>
    simp only [joinN, List.cons_append]
    split <;> split <;> simp_all
theorem comN_lf (l t : List UInt8) (h : unclosed l = false) : comN (l ++ 10 :: t) = comN l := by
  match l with
  | [] => cases t <;> rfl
  | [c] => simp [comN]
  | c :: d :: l =>
    rw [List.cons_append, List.cons_append, comN, comN]
    by_cases g : c.toNat = 47 ∧ d.toNat = 47
    · rw [if_pos g, if_pos g, ← List.cons_append, ← List.cons_append, upTo_lf]
    · rw [if_neg g, if_neg g]
      by_cases g2 : c.toNat = 47 ∧ d.toNat = 42
      · rw [if_pos g2, if_pos g2]
        have e1 : c = 47 := UInt8.toNat_inj.1 g2.1
        have e2 : d = 42 := UInt8.toNat_inj.1 g2.2
        subst e1; subst e2
        rw [starT_closed l _ (by simpa [unclosed] using h)]
      · rw [if_neg g2, if_neg g2]
/-- what stands before a token is the same before a line feed -/
theorem piece_lf (f : Bool) (l t : List UInt8) (h : Tail l) (hl : l ≠ []) (hu : unclosed l = false) : pieceF f (l ++ 10 :: t) = pieceF f l := by
  have hj := joinN_lf l t h hl
  have hc := comN_lf l t hu
  cases l with
  | nil => exact absurd rfl hl
  | cons c l =>
    have hle := comN_le (c :: l)
    rw [List.cons_append] at hj hc ⊢
    rw [pieceF, pieceF, hj, hc]
    have e : (c :: (l ++ 10 :: t)).take (comN (c :: l)) = (c :: l).take (comN (c :: l)) := by
      rw [← List.cons_append, List.take_append_of_le_length hle]
    rw [e]

theorem wordT_lf : ∀ (l t : List UInt8), wordT (l ++ 10 :: t) = wordT l
  | [], t => by rw [List.nil_append]; unfold wordT; rw [if_neg (by decide)]
  | c :: l, t => by rw [List.cons_append, wordT, wordT, wordT_lf l t]
theorem numT_lf : ∀ (p : UInt8) (l t : List UInt8), numT p (l ++ 10 :: t) = numT p l
  | p, [], t => by rw [List.nil_append]; unfold numT; rw [if_neg (by unfold inNum; rw [if_neg (by decide), if_neg (by decide)]; decide)]
  | p, c :: l, t => by rw [List.cons_append, numT, numT, numT_lf c l t]
theorem quoT_lf (q : UInt8) : ∀ (tk : Bool) (l t : List UInt8), quoT q tk (l ++ 10 :: t) = quoT q tk l
  | tk, [], t => by rw [List.nil_append]; unfold quoT; rw [if_pos (by decide)]
  | tk, c :: l, t => by rw [List.cons_append, quoT, quoT, quoT_lf q _ l t]
theorem isPrefix_lf (g x : List UInt8) (t : List UInt8) (h : ¬ (10 : UInt8) ∈ g) : g.isPrefixOf (x ++ 10 :: t) = g.isPrefixOf x := by
  induction g generalizing x with
  | nil => simp [List.isPrefixOf]
  | cons d g ih =>
    cases x with
    | nil =>
      have : ¬ d = 10 := fun e => h (by simp [e])
      simp [List.isPrefixOf, this]
    | cons c x =>
      rw [List.cons_append, List.isPrefixOf, List.isPrefixOf, ih x (fun e => h (by simp [e]))]
theorem signG_lf (x t : List UInt8) : ∀ L : List (List UInt8), (∀ g ∈ L, ¬ (10 : UInt8) ∈ g) → signG L (x ++ 10 :: t) = signG L x
  | [], _ => rfl
  | g :: L, h => by
    rw [signG, signG, isPrefix_lf g x t (h g (by simp)), signG_lf x t L (fun y hy => h y (by simp [hy]))]
theorem signN_lf (x t : List UInt8) : signN (x ++ 10 :: t) = signN x := signG_lf x t signsL (by decide)

theorem trim_none (l : List UInt8) (h : l.getLast? ≠ some 13) : trim13 l = l := by unfold trim13; rw [if_neg h]
theorem lineF_lf_end (l t : List UInt8) (h : Tail l) : ∀ (d e : Nat), e + d = l.length → lineF (l ++ 10 :: t) e = lineF l e
  | 0, e, he => by
    have he : e = l.length := by omega
    subst he
    have h2 : l.length < (l ++ 10 :: t).length := by rw [List.length_append]; simp
    rw [lineF_end, lineF_lf _ _ h2 (by rw [List.getElem_append_right (Nat.le_refl _)]; simp), List.take_left, trim_none l h.2, if_neg h.1]
  | d + 1, e, he => by
    have h1 : e < l.length := by omega
    have h2 : e < (l ++ 10 :: t).length := by rw [List.length_append]; omega
    have hg : (l ++ 10 :: t)[e] = l[e] := List.getElem_append_left h1
    by_cases c : l[e].toNat = 10
    · rw [lineF_lf _ _ h2 (by rw [hg]; exact c), lineF_lf _ _ h1 c, List.take_append_of_le_length (by omega), lineF_lf_end l t h d (e + 1) (by omega)]
    · rw [lineF_go _ _ h2 (by rw [hg]; exact c), lineF_go _ _ h1 c, lineF_lf_end l t h d (e + 1) (by omega)]
theorem lineN_lf (l t : List UInt8) (h : Tail l) : lineN (l ++ 10 :: t) = lineN l := by
  rw [← lineF_zero, ← lineF_zero, lineF_lf_end l t h l.length 0 (by omega)]

/-- a token is the same before a line feed -/
theorem tok_lf (f : Bool) (l t : List UInt8) (h : Tail l) (hl : l ≠ []) : tokF f (l ++ 10 :: t) = tokF f l := by
  have h1 := lineN_lf l t h
  have h4 := signN_lf l t
  cases l with
  | nil => exact absurd rfl hl
  | cons c l =>
    have h2 : wordN (c :: l ++ 10 :: t) = wordN (c :: l) := by rw [List.cons_append, wordN, wordN, wordT_lf]
    have h3 : numN (c :: l ++ 10 :: t) = numN (c :: l) := by
      have hb : begNum (c :: (l ++ 10 :: t)) = begNum (c :: l) := by
        rw [begNum_d, begNum_d]
        cases l with
        | nil => simp [show isDig 10 = false by decide, show isDig 0 = false by decide]
        | cons d l => simp
      rw [List.cons_append, numN, numN, hb, numT_lf]
    have h5 : quoN (c :: l ++ 10 :: t) = quoN (c :: l) := by rw [List.cons_append, quoN, quoN, quoT_lf]
    have h6 : (c :: l ++ 10 :: t).take (wordN (c :: l)) = (c :: l).take (wordN (c :: l)) := List.take_append_of_le_length (wordN_le _)
    unfold tokF
    rw [h1, h2, h3, h4, h5, h6]
    rfl

/-- whether a text's end lies in a comment that has no end -/
def openE : Nat → Bool → List UInt8 → Bool
  | 0, _, _ => false
  | n + 1, f, l => if l = [] then false else if unclosed l = true then true else if (pieceF f l).1 ≠ 0 then openE n (pieceF f l).2 (l.drop (pieceF f l).1) else openE n false (l.drop (tokF f l).2)

theorem two_toks (B : List UInt8) : ∀ (n : Nat) (f : Bool) (a : Nat) (l : List UInt8), l.length < n → Tail l → openE n f l = false → tokR f a (l ++ 10 :: B) = glueT (tokR f a l) (tokR true (a + l.length + 1) B)
  | 0, _, _, _, h, _, _ => by omega
  | n + 1, f, a, l, h, ht, ho => by
    by_cases hl : l = []
    · subst hl
      have hp : pieceF f (10 :: B) = (1, true) := by simp [pieceF]
      rw [List.nil_append, R_piece f a _ (by rw [hp]; simp), hp, R_nil]
      simp [glueT]
    · rw [openE, if_neg hl] at ho
      cases hu : unclosed l
      · rw [hu, if_neg (by simp)] at ho
        have hpl := piece_lf f l B ht hl hu
        by_cases hp : (pieceF f l).1 = 0
        · rw [if_neg (by simp [hp])] at ho
          have htl := tok_lf f l B ht hl
          have hle := tokF_le f l hl
          rw [R_tok f a _ (by rw [hpl]; exact hp) (by simp), htl, R_tok f a l hp hl, glue_cons _ _ _ (tokR_ne _ _ _), List.take_append_of_le_length hle.2, List.drop_append_of_le_length hle.2,
            two_toks B n false (a + (tokF f l).2) _ (by rw [List.length_drop]; omega) (ht.drop _) ho, List.length_drop]
          congr 3
          omega
        · rw [if_pos hp] at ho
          have hle := pieceF_le f l
          rw [R_piece f a _ (by rw [hpl]; exact hp), hpl, R_piece f a l hp, glue_addB _ _ _ (tokR_ne _ _ _), List.take_append_of_le_length hle, List.drop_append_of_le_length hle,
            two_toks B n _ (a + (pieceF f l).1) _ (by rw [List.length_drop]; omega) (ht.drop _) ho, List.length_drop]
          congr 3
          omega
      · rw [hu, if_pos rfl] at ho
        cases ho

end Go.Proofs.YtjdpkhjoecfhlaaGreatDoor
