/- Lex, plain: a text whose end lies in an open comment, and the same text with the comment's end behind it. -/
import Derived.Test.YtjdpkhjoecfhlaaGreatDoorLexO
namespace Go.Proofs.YtjdpkhjoecfhlaaGreatDoor
open Go.RowKit Go.Maps Go.Shelf

/-- whether // stands behind the last line feed of a text, outside of other comments (the law's own lineComment) -/
def lcF : List UInt8 → Bool
  | [] => false
  | c :: l =>
    if c.toNat = 47 ∧ l.head? = some 42 then lcF ((l.drop 1).drop (starT (l.drop 1)))
    else if c.toNat = 47 ∧ l.head? = some 47 then (if upTo l = l.length then true else lcF (l.drop (upTo l + 1)))
    else lcF l
  termination_by l => l.length
  decreasing_by
    all_goals (simp only [List.length_drop, List.length_cons]; omega)

theorem lc_plain (c : UInt8) (l : List UInt8) (h : ¬ c = 47) : lcF (c :: l) = lcF l := by
  have h' : ¬ c.toNat = 47 := fun e => h (UInt8.toNat_inj.1 e)
  rw [lcF, if_neg (fun g => h' g.1), if_neg (fun g => h' g.1)]
theorem lc_star (r : List UInt8) : lcF (47 :: 42 :: r) = lcF (r.drop (starT r)) := by
  rw [lcF, if_pos (by simp)]
  rfl
theorem lc_line (r : List UInt8) : lcF (47 :: 47 :: r) = if upTo r = r.length then true else lcF (r.drop (upTo r + 1)) := by
  have e : upTo (47 :: r) = upTo r + 1 := by rw [upTo, if_neg (by decide)]
  rw [lcF, if_neg (by simp), if_pos (by simp), e]
  simp only [List.length_cons, Nat.add_right_cancel_iff, List.drop_succ_cons]

theorem upTo_app : ∀ (l x : List UInt8), upTo l < l.length → upTo (l ++ x) = upTo l
  | [], _, h => by simp [upTo] at h
  | c :: l, x, h => by
    rw [upTo] at h
    rw [List.cons_append, upTo, upTo]
    by_cases g : c.toNat = 10
    · rw [if_pos g, if_pos g]
    · rw [if_neg g] at h
      rw [if_neg g, if_neg g, upTo_app l x (by simp at h; omega)]
theorem upTo_drop : ∀ (l : List UInt8), upTo l < l.length → l.drop (upTo l) = 10 :: l.drop (upTo l + 1)
  | [], h => by simp [upTo] at h
  | c :: l, h => by
    rw [upTo] at h
    rw [upTo]
    by_cases g : c.toNat = 10
    · have : c = 10 := UInt8.toNat_inj.1 g
      rw [if_pos g, this]; rfl
    · rw [if_neg g] at h
      rw [if_neg g, List.drop_succ_cons, List.drop_succ_cons, upTo_drop l (by simp at h; omega)]
theorem joinN_app (l x : List UInt8) (h : joinN l ≠ 0) : joinN (l ++ x) = joinN l := by
  unfold joinN at h
  split at h
  · rfl
  · rfl
  · exact absurd rfl h

/-- the cases of a piece -/
theorem piece_app (f : Bool) (l x : List UInt8) (h : (pieceF f l).1 ≠ 0) (hl : (pieceF f l).1 < l.length) (hu : unclosed l = false) : pieceF f (l ++ x) = pieceF f l ∧ lcF (l ++ x) = lcF (l.drop (pieceF f l).1 ++ x) := by
  cases l with
  | nil => simp at hl
  | cons c l =>
    rw [List.cons_append]
    by_cases h1 : c.toNat = 32 ∨ c.toNat = 9
    · have e : ∀ y, pieceF f (c :: y) = (1, f) := fun y => by rw [pieceF, if_pos h1]
      rw [e, e]
      exact ⟨rfl, lc_plain _ _ (fun g => by rw [g] at h1; exact absurd h1 (by decide))⟩
    · by_cases h2 : c.toNat = 10
      · have e : ∀ y, pieceF f (c :: y) = (1, true) := fun y => by rw [pieceF, if_neg h1, if_pos h2]
        rw [e, e]
        exact ⟨rfl, lc_plain _ _ (fun g => by rw [g] at h2; exact absurd h2 (by decide))⟩
      · by_cases h3 : c.toNat = 11 ∨ c.toNat = 12 ∨ c.toNat = 13
        · have e : ∀ y, pieceF f (c :: y) = (1, false) := fun y => by rw [pieceF, if_neg h1, if_neg h2, if_pos h3]
          rw [e, e]
          exact ⟨rfl, lc_plain _ _ (fun g => by rw [g] at h3; exact absurd h3 (by decide))⟩
        · by_cases h4 : c.toNat = 92
          · have e : ∀ y, pieceF f (c :: y) = (joinN (c :: y), decide (0 < joinN (c :: y))) := fun y => by rw [pieceF, if_neg h1, if_neg h2, if_neg h3, if_pos h4]
            rw [e] at h hl
            rw [e, e, ← List.cons_append, joinN_app _ x h]
            refine ⟨rfl, ?_⟩
            simp only at h hl ⊢
            unfold joinN at h ⊢
            split at h
            · rename_i r e2
              rw [e2]
              simp only [List.cons_append, List.drop_succ_cons, List.drop_zero]
              rw [lc_plain _ _ (by decide), lc_plain _ _ (by decide)]
            · rename_i r e2
              rw [e2]
              simp only [List.cons_append, List.drop_succ_cons, List.drop_zero]
              rw [lc_plain _ _ (by decide), lc_plain _ _ (by decide), lc_plain _ _ (by decide)]
            · exact absurd rfl h
          · by_cases h5 : c.toNat = 47
            · have hc : c = 47 := UInt8.toNat_inj.1 h5
              subst hc
              have e : ∀ y, pieceF f (47 :: y) = (comN (47 :: y), f || ((47 :: y).take (comN (47 :: y))).contains 10) := fun y => by rw [pieceF, if_neg h1, if_neg h2, if_neg h3, if_neg h4, if_pos h5]
              rw [e] at h hl
              rw [e, e]
              simp only at h hl
              have hle := comN_le (47 :: l)
              cases l with
              | nil => exact absurd rfl h
              | cons d l =>
                by_cases g1 : d.toNat = 47
                · have hd : d = 47 := UInt8.toNat_inj.1 g1
                  subst hd
                  have k : ∀ y, comN (47 :: 47 :: y) = upTo y + 2 := fun y => by
                    rw [comN, if_pos ⟨by decide, by decide⟩, upTo, if_neg (by decide), upTo, if_neg (by decide)]
                  rw [k] at h hl hle
                  simp only [List.length_cons] at hl
                  have hu2 : upTo l < l.length := by omega
                  have ka : comN (47 :: (47 :: l ++ x)) = comN (47 :: 47 :: l) := by rw [List.cons_append, k, k, upTo_app l x hu2]
                  rw [ka]
                  refine ⟨?_, ?_⟩
                  · have : (47 :: (47 :: l ++ x)).take (comN (47 :: 47 :: l)) = (47 :: 47 :: l).take (comN (47 :: 47 :: l)) := by
                      rw [← List.cons_append, List.take_append_of_le_length (by rw [k]; simp; omega)]
                    rw [this]
                  · simp only [k]
                    rw [List.cons_append, lc_line, if_neg (by rw [upTo_app l x hu2, List.length_append]; omega), upTo_app l x hu2]
                    simp only [List.drop_succ_cons]
                    rw [upTo_drop l hu2, List.cons_append, lc_plain _ _ (by decide), List.drop_append_of_le_length (by omega)]
                · by_cases g2 : d.toNat = 42
                  · have hd : d = 42 := UInt8.toNat_inj.1 g2
                    subst hd
                    have k : ∀ y, comN (47 :: 42 :: y) = starT y + 2 := fun y => by
                      rw [comN, if_neg (by decide), if_pos ⟨by decide, by decide⟩]
                    have hcl : closedT l = true := by simpa [unclosed] using hu
                    have ka : comN (47 :: (42 :: l ++ x)) = comN (47 :: 42 :: l) := by rw [List.cons_append, k, k, starT_closed l x hcl]
                    rw [ka]
                    have hsl := starT_le l
                    refine ⟨?_, ?_⟩
                    · have : (47 :: (42 :: l ++ x)).take (comN (47 :: 42 :: l)) = (47 :: 42 :: l).take (comN (47 :: 42 :: l)) := by
                        rw [← List.cons_append, List.take_append_of_le_length (by rw [k]; simp; omega)]
                      rw [this]
                    · simp only [k]
                      rw [List.cons_append, lc_star, starT_closed l x hcl, List.drop_append_of_le_length hsl]
                      simp only [List.drop_succ_cons]
                  · exfalso
                    rw [comN, if_neg (fun q => g1 q.2), if_neg (fun q => g2 q.2)] at h
                    exact h rfl
            · exfalso
              rw [pieceF, if_neg h1, if_neg h2, if_neg h3, if_neg h4, if_neg h5] at h
              exact h rfl

/-- where no piece begins, none begins with more behind it -/
theorem piece_app0 (f : Bool) (l x : List UInt8) (h : (pieceF f l).1 = 0) (hl : 3 ≤ l.length) : (pieceF f (l ++ x)).1 = 0 := by
  match l with
  | [] => simp at hl
  | [_] => simp at hl
  | [_, _] => simp at hl
  | c :: d :: e :: l =>
    simp only [List.cons_append]
    rw [pieceF] at h ⊢
    by_cases h1 : c.toNat = 32 ∨ c.toNat = 9
    · rw [if_pos h1] at h; simp at h
    · rw [if_neg h1] at h ⊢
      by_cases h2 : c.toNat = 10
      · rw [if_pos h2] at h; simp at h
      · rw [if_neg h2] at h ⊢
        by_cases h3 : c.toNat = 11 ∨ c.toNat = 12 ∨ c.toNat = 13
        · rw [if_pos h3] at h; simp at h
        · rw [if_neg h3] at h ⊢
          by_cases h4 : c.toNat = 92
          · rw [if_pos h4] at h ⊢
            simp only at h ⊢
            unfold joinN at h ⊢
            split at h
            · exact absurd h (by simp)
            · exact absurd h (by simp)
            · rename_i q1 q2
              split
              · rename_i r e2
                simp only [List.cons.injEq] at e2
                exact absurd (by rw [e2.1, e2.2.1]) (q1 (e :: l))
              · rename_i r e2
                simp only [List.cons.injEq] at e2
                exact absurd (by rw [e2.1, e2.2.1, e2.2.2.1]) (q2 l)
              · rfl
          · rw [if_neg h4] at h ⊢
            by_cases h5 : c.toNat = 47
            · rw [if_pos h5] at h ⊢
              simp only at h ⊢
              rw [comN] at h ⊢
              by_cases g1 : c.toNat = 47 ∧ d.toNat = 47
              · rw [if_pos g1, upTo, if_neg (by rw [g1.1]; decide)] at h
                omega
              · rw [if_neg g1] at h ⊢
                by_cases g2 : c.toNat = 47 ∧ d.toNat = 42
                · rw [if_pos g2] at h; omega
                · rw [if_neg g2]
            · rw [if_neg h5]

theorem wordT_app : ∀ (l x : List UInt8), wordT l < l.length → wordT (l ++ x) = wordT l
  | [], _, h => by simp at h
  | c :: l, x, h => by
    rw [wordT] at h
    rw [List.cons_append, wordT, wordT]
    by_cases g : (isLet c || isDig c) = true
    · rw [if_pos g] at h
      rw [if_pos g, if_pos g, wordT_app l x (by simp at h; omega)]
    · rw [if_neg g, if_neg g]
theorem numT_app : ∀ (p : UInt8) (l x : List UInt8), numT p l < l.length → numT p (l ++ x) = numT p l
  | _, [], _, h => by simp at h
  | p, c :: l, x, h => by
    rw [numT] at h
    rw [List.cons_append, numT, numT]
    by_cases g : inNum p c = true
    · rw [if_pos g] at h
      rw [if_pos g, if_pos g, numT_app c l x (by simp at h; omega)]
    · rw [if_neg g, if_neg g]
theorem quoT_app (q : UInt8) : ∀ (tk : Bool) (l x : List UInt8), (quoT q tk l).2 = true → quoT q tk (l ++ x) = quoT q tk l
  | _, [], _, h => by simp [quoT] at h
  | tk, c :: l, x, h => by
    rw [quoT] at h
    rw [List.cons_append, quoT, quoT]
    by_cases h10 : c.toNat = 10
    · rw [if_pos h10] at h; simp at h
    · rw [if_neg h10] at h
      rw [if_neg h10, if_neg h10]
      by_cases hq : c = q ∧ tk = false
      · rw [if_pos hq, if_pos hq]
      · rw [if_neg hq] at h
        rw [if_neg hq, if_neg hq, quoT_app q _ l x h]
theorem quoT_app_not (q : UInt8) (h42 : ¬ (42 : UInt8) = q) (h47 : ¬ (47 : UInt8) = q) : ∀ (tk : Bool) (l : List UInt8), (quoT q tk l).2 = false → (quoT q tk (l ++ [42, 47])).2 = false
  | tk, [], _ => by
    rw [List.nil_append, quoT, if_neg (by decide), if_neg (fun g => h42 g.1), quoT, if_neg (by decide), if_neg (fun g => h47 g.1)]
    rfl
  | tk, c :: l, h => by
    rw [quoT] at h
    rw [List.cons_append, quoT]
    by_cases h10 : c.toNat = 10
    · rw [if_pos h10]
    · rw [if_neg h10] at h
      rw [if_neg h10]
      by_cases hq : c = q ∧ tk = false
      · rw [if_pos hq] at h; cases h
      · rw [if_neg hq] at h
        rw [if_neg hq]
        exact quoT_app_not q h42 h47 _ l h
theorem isPrefix_app : ∀ (g l x : List UInt8), g.length ≤ l.length → g.isPrefixOf (l ++ x) = g.isPrefixOf l
  | [], _, _, _ => by simp [List.isPrefixOf]
  | _ :: _, [], _, h => by simp at h
  | d :: g, c :: l, x, h => by
    rw [List.cons_append, List.isPrefixOf, List.isPrefixOf, isPrefix_app g l x (by simpa using h)]
theorem signG_app (l x : List UInt8) : ∀ L : List (List UInt8), (∀ g ∈ L, g.length ≤ l.length) → signG L (l ++ x) = signG L l
  | [], _ => rfl
  | g :: L, h => by
    rw [signG, signG, isPrefix_app g l x (h g (by simp)), signG_app l x L (fun y hy => h y (by simp [hy]))]
theorem signs_short : ∀ g ∈ signsL, g.length ≤ 3 := by decide
theorem signN_app (l x : List UInt8) (h : 3 ≤ l.length) : signN (l ++ x) = signN l := signG_app l x signsL (fun g hg => Nat.le_trans (signs_short g hg) h)

theorem lineF_app (l x : List UInt8) : ∀ (d e : Nat), e + d = l.length → lineF l e < l.length → lineF (l ++ x) e = lineF l e
  | 0, e, he, h => by
    have he : e = l.length := by omega
    subst he
    rw [lineF_end] at h
    omega
  | d + 1, e, he, h => by
    have h1 : e < l.length := by omega
    have h2 : e < (l ++ x).length := by rw [List.length_append]; omega
    have hg : (l ++ x)[e] = l[e] := List.getElem_append_left h1
    by_cases c : l[e].toNat = 10
    · rw [lineF_lf _ _ h1 c] at h
      rw [lineF_lf _ _ h2 (by rw [hg]; exact c), lineF_lf _ _ h1 c, List.take_append_of_le_length (by omega)]
      by_cases g : (trim13 (l.take e)).getLast? = some 92
      · rw [if_pos g] at h
        rw [if_pos g, if_pos g, lineF_app l x d (e + 1) (by omega) h]
      · rw [if_neg g, if_neg g]
    · rw [lineF_go _ _ h1 c] at h
      rw [lineF_go _ _ h2 (by rw [hg]; exact c), lineF_go _ _ h1 c, lineF_app l x d (e + 1) (by omega) h]

theorem tokO (f : Bool) (c : UInt8) (l : List UInt8) (h : c = 39 ∨ c = 34) (hq : (quoN (c :: l)).2 = false) : tokF f (c :: l) = (8, 1) := by
  have hc35 : ¬ c = 35 := by rcases h with rfl | rfl <;> decide
  have hl : isLet c = false := by rcases h with rfl | rfl <;> decide
  have hb : begNum (c :: l) = false := by
    rw [begNum_d]
    rcases h with rfl | rfl
    · simp [show isDig 39 = false by decide]
    · simp [show isDig 34 = false by decide]
  rcases tok_cases f c l with ⟨_, h1, _⟩ | ⟨_, h1, _⟩ | ⟨_, _, h1, _⟩ | ⟨_, _, _, _, h1, _⟩ | ⟨_, _, _, _, h1, _⟩ | ⟨_, _, _, _, _, h1⟩ | ⟨_, _, _, h1, h2, _⟩ | ⟨_, _, _, _, _, _, h1⟩
  · exact absurd h1 hc35
  · rw [hl] at h1; cases h1
  · rw [hb] at h1; cases h1
  · rw [hq] at h1; cases h1
  · rw [hq] at h1; cases h1
  · exact h1
  · rcases h with h | h
    · exact absurd h h1
    · exact absurd h h2
  · exact h1
theorem tokX (f : Bool) (c : UInt8) (l : List UInt8) (h0 : ¬ (f = true ∧ c = 35)) (h1 : isLet c = false) (h2 : begNum (c :: l) = false) (h3 : ¬ c = 39) (h4 : ¬ c = 34) : tokF f (c :: l) = if signN (c :: l) ≠ 0 then (6, signN (c :: l)) else (8, 1) := by
  rcases tok_cases f c l with ⟨g1, g2, _⟩ | ⟨_, g, _⟩ | ⟨_, _, g, _⟩ | ⟨_, _, _, g, _⟩ | ⟨_, _, _, g, _⟩ | ⟨_, _, _, g, _⟩ | ⟨_, _, _, _, _, g, e⟩ | ⟨_, _, _, _, _, g, e⟩
  · exact absurd ⟨g1, g2⟩ h0
  · rw [h1] at g; cases g
  · rw [h2] at g; cases g
  · exact absurd g h3
  · exact absurd g h4
  · rcases g with g | g
    · exact absurd g h3
    · exact absurd g h4
  · rw [if_pos g]; exact e
  · rw [if_neg (by simp [g])]; exact e
theorem tokW2 (f : Bool) (c : UInt8) (l : List UInt8) (h1 : isLet c = true) : tokF f (c :: l) = (if keysL.contains ((c :: l).take (wordT (c :: l))) = true then 2 else 1, wordT (c :: l)) :=
  tokW f c l (fun q => by rw [q] at h1; exact absurd h1 (by decide)) h1
theorem tokN2 (f : Bool) (c : UInt8) (l : List UInt8) (h1 : isLet c = false) (h2 : begNum (c :: l) = true) : tokF f (c :: l) = (3, numT c l + 1) :=
  tokN f c l (fun q => by rw [begNum_d, q, show isDig 35 = false by decide] at h2; simp at h2) h1 h2

/-- a token that does not reach a text's end is the same with a comment's end behind the text -/
theorem tok_app (f : Bool) (l : List UInt8) (h3 : 3 ≤ l.length) (hz : (tokF f l).2 < l.length) : tokF f (l ++ [42, 47]) = tokF f l := by
  have hs := signN_app l [42, 47] h3
  match l with
  | [] => simp at h3
  | [_] => simp at h3
  | c :: d :: l =>
    have hb : begNum (c :: ((d :: l) ++ [42, 47])) = begNum (c :: d :: l) := by rw [begNum_d, begNum_d]; rfl
    rw [List.cons_append] at hs ⊢
    rcases tok_cases f c (d :: l) with ⟨e0, e1, e⟩ | ⟨e0, e1, e⟩ | ⟨e0, e1, e2, e⟩ | ⟨e0, e1, e2, e3, e4, e⟩ | ⟨e0, e1, e2, e3, e4, e⟩ | ⟨e0, e1, e2, e3, e4, e⟩ | ⟨e0, e1, e2, e3, e4, e5, e⟩ | ⟨e0, e1, e2, e3, e4, e5, e⟩
    · rw [e] at hz ⊢
      simp only at hz
      have h2 := lineF_app (c :: d :: l) [42, 47] (c :: d :: l).length 0 (by omega) (by rw [lineF_zero]; exact hz)
      rw [lineF_zero, lineF_zero] at h2
      unfold tokF
      rw [if_pos ⟨e0, by rw [e1]; rfl⟩, ← List.cons_append, h2]
    · rw [e] at hz ⊢
      simp only at hz
      have h2 := wordT_app (c :: d :: l) [42, 47] hz
      rw [tokW2 f c _ e1, ← List.cons_append, h2, List.take_append_of_le_length (by omega)]
    · rw [e] at hz ⊢
      simp only [List.length_cons] at hz
      rw [tokN2 f c _ e1 (by rw [hb]; exact e2), numT_app c (d :: l) [42, 47] (by simp; omega)]
    · subst e3
      rw [e]
      have h2 := quoT_app 39 false (d :: l) [42, 47] (by simpa [quoN] using e4)
      rw [tokC f _ (by rw [quoN, h2]; simpa [quoN] using e4), quoN, h2]
      rfl
    · subst e3
      rw [e]
      have h2 := quoT_app 34 false (d :: l) [42, 47] (by simpa [quoN] using e4)
      rw [tokS f _ (by rw [quoN, h2]; simpa [quoN] using e4), quoN, h2]
      rfl
    · rw [e]
      refine tokO f c _ e3 ?_
      rw [quoN] at e4 ⊢
      simp only at e4 ⊢
      refine quoT_app_not c ?_ ?_ false (d :: l) e4
      · rcases e3 with rfl | rfl <;> decide
      · rcases e3 with rfl | rfl <;> decide
    · rw [e, tokX f c _ e0 e1 (by rw [hb]; exact e2) e3 e4, hs, if_pos e5]
    · rw [e, tokX f c _ e0 e1 (by rw [hb]; exact e2) e3 e4, hs, if_neg (by simp [e5])]

theorem openE_len : ∀ (n : Nat) (f : Bool) (l : List UInt8), openE n f l = true → 2 ≤ l.length
  | 0, _, _, h => by cases h
  | n + 1, f, l, h => by
    rw [openE] at h
    by_cases h0 : l = []
    · rw [if_pos h0] at h; cases h
    · rw [if_neg h0] at h
      by_cases hu : unclosed l = true
      · unfold unclosed at hu
        split at hu
        · simp
        · cases hu
      · rw [if_neg hu] at h
        by_cases hp : (pieceF f l).1 ≠ 0
        · rw [if_pos hp] at h
          have := openE_len n _ _ h
          rw [List.length_drop] at this
          omega
        · rw [if_neg hp] at h
          have := openE_len n _ _ h
          rw [List.length_drop] at this
          omega

/-- what an open end makes of the tokens, with and without the comment's end -/
theorem open_toks : ∀ (n : Nat) (f : Bool) (a : Nat) (l : List UInt8), openE n f l = true → ∃ (X : List Tk) (eb : List UInt8) (p : Nat), tokR f a l = X ++ [⟨0, ⟨eb.toArray⟩, ⟨#[]⟩, p⟩] ∧ tokR f a (l ++ [42, 47]) = X ++ [⟨0, ⟨(eb ++ [42, 47]).toArray⟩, ⟨#[]⟩, p + 2⟩] ∧ lcF (eb ++ [42, 47]) = false ∧ (X = [] → eb = l)
  | 0, _, _, _, h => by cases h
  | n + 1, f, a, l, h => by
    rw [openE] at h
    by_cases h0 : l = []
    · rw [if_pos h0] at h; cases h
    · rw [if_neg h0] at h
      by_cases hu : unclosed l = true
      · have hl : ∃ r, l = 47 :: 42 :: r ∧ closedT r = false := by
          unfold unclosed at hu
          split at hu
          · rename_i r; exact ⟨r, rfl, by simpa using hu⟩
          · cases hu
        obtain ⟨r, rfl, hr⟩ := hl
        have e : ∀ y, (pieceF f (47 :: 42 :: y)).1 = starT y + 2 := fun y => by
          rw [pieceF, if_neg (by decide), if_neg (by decide), if_neg (by decide), if_neg (by decide), if_pos (by decide)]
          simp only
          rw [comN, if_neg (by decide), if_pos ⟨by decide, by decide⟩]
        have e1 : (pieceF f (47 :: 42 :: r)).1 = r.length + 2 := by rw [e, starT_open r hr]
        have e2 : (pieceF f (47 :: 42 :: r ++ [42, 47])).1 = r.length + 4 := by rw [List.cons_append, List.cons_append, e, starT_open_end r hr]
        refine ⟨[], 47 :: 42 :: r, a + (r.length + 2), ?_, ?_, ?_, fun _ => rfl⟩
        · rw [R_piece f a _ (by rw [e1]; omega), e1, List.drop_eq_nil_of_le (by simp), List.take_of_length_le (by simp), R_nil]
          simp [addB]
        · rw [R_piece f a _ (by rw [e2]; omega), e2, List.drop_eq_nil_of_le (by simp), List.take_of_length_le (by simp), R_nil]
          simp [addB]
          omega
        · rw [List.cons_append, List.cons_append, lc_star, starT_open_end r hr, List.drop_eq_nil_of_le (by simp)]
          rw [lcF]
      · have huf : unclosed l = false := by simpa using hu
        rw [if_neg hu] at h
        by_cases hp : (pieceF f l).1 ≠ 0
        · rw [if_pos hp] at h
          have hlen := openE_len n _ _ h
          rw [List.length_drop] at hlen
          obtain ⟨e1, e2⟩ := piece_app f l [42, 47] hp (by omega) huf
          obtain ⟨X, eb, p, t1, t2, t3, t4⟩ := open_toks n _ (a + (pieceF f l).1) _ h
          have hR1 := R_piece f a l hp
          have hR2 := R_piece f a (l ++ [42, 47]) (by rw [e1]; exact hp)
          rw [e1, List.take_append_of_le_length (by omega), List.drop_append_of_le_length (by omega), t2] at hR2
          rw [t1] at hR1
          cases X with
          | nil =>
            have he := t4 rfl
            refine ⟨[], l, p, ?_, ?_, ?_, fun _ => rfl⟩
            · rw [hR1, he]; simp [addB]
            · rw [hR2, he]
              simp only [List.nil_append, addB, List.cons.injEq, Tk.mk.injEq, true_and, and_true]
              rw [← List.append_assoc, List.take_append_drop]
            · rw [e2, ← he]; exact t3
          | cons t X =>
            refine ⟨addB (l.take (pieceF f l).1) (t :: X), eb, p, ?_, ?_, t3, fun e => by simp [addB] at e⟩
            · rw [hR1]; simp [addB]
            · rw [hR2]; simp [addB]
        · have hp0 : (pieceF f l).1 = 0 := by simpa using hp
          rw [if_neg hp] at h
          have hlen := openE_len n _ _ h
          rw [List.length_drop] at hlen
          have hz := tokF_le f l h0
          have e1 := tok_app f l (by omega) (by omega)
          have e2 := piece_app0 f l [42, 47] hp0 (by omega)
          obtain ⟨X, eb, p, t1, t2, t3, t4⟩ := open_toks n _ (a + (tokF f l).2) _ h
          have hR1 := R_tok f a l hp0 h0
          have hR2 := R_tok f a (l ++ [42, 47]) e2 (by simp)
          rw [e1, List.take_append_of_le_length (by omega), List.drop_append_of_le_length (by omega), t2] at hR2
          rw [t1] at hR1
          exact ⟨_ :: X, eb, p, hR1, hR2, t3, fun e => by simp at e⟩

end Go.Proofs.YtjdpkhjoecfhlaaGreatDoor
