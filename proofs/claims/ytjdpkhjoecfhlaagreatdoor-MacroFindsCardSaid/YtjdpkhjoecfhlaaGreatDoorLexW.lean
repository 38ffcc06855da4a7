/- Lex, plain: a token's text is the same token before a blank, or at the end; tokens' texts with blanks between are the same tokens. -/
import Derived.Test.YtjdpkhjoecfhlaaGreatDoorLexZt
namespace Go.Proofs.YtjdpkhjoecfhlaaGreatDoor
open Go.RowKit Go.Maps Go.Shelf

/-- what may stand behind a token's text: nothing, or a blank and anything -/
def Sep (r : List UInt8) : Prop := r = [] ∨ ∃ t, r = 32 :: t

theorem wordT_sep {r : List UInt8} (h : Sep r) : wordT r = 0 := by
  rcases h with rfl | ⟨t, rfl⟩
  · rfl
  · rw [wordT, if_neg (by decide)]
theorem numT_sep (p : UInt8) {r : List UInt8} (h : Sep r) : numT p r = 0 := by
  rcases h with rfl | ⟨t, rfl⟩
  · rfl
  · rw [numT, if_neg (by unfold inNum; rw [if_neg (by decide), if_neg (by decide)]; decide)]

theorem wordT_move : ∀ (x r r' : List UInt8), Sep r' → wordT (x ++ r) = x.length → wordT (x ++ r') = x.length
  | [], r, r', h, _ => wordT_sep h
  | c :: x, r, r', h, g => by
    rw [List.cons_append, wordT] at g ⊢
    by_cases hc : (isLet c || isDig c) = true
    · rw [if_pos hc] at g ⊢
      simp only [List.length_cons] at g ⊢
      rw [wordT_move x r r' h (by omega)]
    · rw [if_neg hc] at g; simp at g
theorem numT_move : ∀ (p : UInt8) (x r r' : List UInt8), Sep r' → numT p (x ++ r) = x.length → numT p (x ++ r') = x.length
  | p, [], r, r', h, _ => numT_sep p h
  | p, c :: x, r, r', h, g => by
    rw [List.cons_append, numT] at g ⊢
    by_cases hc : inNum p c = true
    · rw [if_pos hc] at g ⊢
      simp only [List.length_cons] at g ⊢
      rw [numT_move c x r r' h (by omega)]
    · rw [if_neg hc] at g; simp at g
theorem quoT_move (q : UInt8) : ∀ (tk : Bool) (x r r' : List UInt8), quoT q tk (x ++ r) = (x.length, true) → quoT q tk (x ++ r') = (x.length, true)
  | tk, [], r, r', g => by
    exfalso
    cases r with
    | nil => simp [quoT] at g
    | cons c r =>
      rw [List.nil_append, quoT] at g
      split at g
      · simp at g
      · split at g
        · simp at g
        · simp only [List.length_nil, Prod.mk.injEq] at g; omega
  | tk, c :: x, r, r', g => by
    rw [List.cons_append, quoT] at g ⊢
    by_cases h10 : c.toNat = 10
    · rw [if_pos h10] at g; simp at g
    · rw [if_neg h10] at g ⊢
      by_cases hq : c = q ∧ tk = false
      · rw [if_pos hq] at g ⊢
        exact g
      · rw [if_neg hq] at g ⊢
        simp only [Prod.mk.injEq, List.length_cons] at g
        have ih := quoT_move q (decide (c.toNat = 92) && !tk) x r r' (Prod.ext (by simp only; omega) g.2)
        rw [ih]
        rfl

theorem isPrefix_sep (g x : List UInt8) (t : List UInt8) (h : ¬ (32 : UInt8) ∈ g) : g.isPrefixOf (x ++ 32 :: t) = g.isPrefixOf x := by
  induction g generalizing x with
  | nil => simp [List.isPrefixOf]
  | cons d g ih =>
    cases x with
    | nil =>
      have : ¬ d = 32 := fun e => h (by simp [e])
      simp [List.isPrefixOf, this]
    | cons c x =>
      rw [List.cons_append, List.isPrefixOf, List.isPrefixOf, ih x (fun e => h (by simp [e]))]
theorem signG_sep (x t : List UInt8) : ∀ L : List (List UInt8), (∀ g ∈ L, ¬ (32 : UInt8) ∈ g) → signG L (x ++ 32 :: t) = signG L x
  | [], _ => rfl
  | g :: L, h => by
    rw [signG, signG, isPrefix_sep g x t (h g (by simp)), signG_sep x t L (fun y hy => h y (by simp [hy]))]
theorem signN_self : ∀ x ∈ signsL, signN x = x.length := by decide
theorem signG_at (l : List UInt8) : ∀ L : List (List UInt8), signG L l ≠ 0 → ∃ g ∈ L, g.isPrefixOf l = true ∧ signG L l = g.length
  | [], h => absurd rfl h
  | x :: L, h => by
    rw [signG] at h ⊢
    by_cases c : x.isPrefixOf l = true
    · rw [if_pos c]; exact ⟨x, by simp, c, rfl⟩
    · rw [if_neg c] at h ⊢
      obtain ⟨g, hg, e⟩ := signG_at l L h
      exact ⟨g, by simp [hg], e⟩
theorem signN_move (x r r' : List UInt8) (h : Sep r') (g : signN (x ++ r) = x.length) (hx : x ≠ []) : signN (x ++ r') = x.length := by
  have hm : x ∈ signsL := by
    unfold signN at g
    obtain ⟨y, hy, hp, e⟩ := signG_at (x ++ r) signsL (by rw [g]; intro e; exact hx (List.eq_nil_of_length_eq_zero e))
    obtain ⟨t, ht⟩ := List.isPrefixOf_iff_prefix.1 hp
    have := (List.append_inj ht (by omega)).1
    rw [← this]; exact hy
  rcases h with rfl | ⟨t, rfl⟩
  · rw [List.append_nil]; exact signN_self x hm
  · unfold signN
    rw [signG_sep x t signsL (by decide)]
    exact signN_self x hm

theorem tokW (f : Bool) (c : UInt8) (l : List UInt8) (h0 : ¬ c = 35) (h1 : isLet c = true) : tokF f (c :: l) = (if keysL.contains ((c :: l).take (wordT (c :: l))) = true then 2 else 1, wordT (c :: l)) := by
  rcases tok_cases f c l with ⟨_, h, _⟩ | ⟨_, _, h⟩ | ⟨_, h, _⟩ | ⟨_, h, _⟩ | ⟨_, h, _⟩ | ⟨_, h, _⟩ | ⟨_, h, _⟩ | ⟨_, h, _⟩
  · exact absurd h h0
  · exact h
  all_goals (rw [h1] at h; cases h)
theorem tokN (f : Bool) (c : UInt8) (l : List UInt8) (h0 : ¬ c = 35) (h1 : isLet c = false) (h2 : begNum (c :: l) = true) : tokF f (c :: l) = (3, numT c l + 1) := by
  rcases tok_cases f c l with ⟨_, h, _⟩ | ⟨_, h, _⟩ | ⟨_, _, _, h⟩ | ⟨_, _, h, _⟩ | ⟨_, _, h, _⟩ | ⟨_, _, h, _⟩ | ⟨_, _, h, _⟩ | ⟨_, _, h, _⟩
  · exact absurd h h0
  · rw [h1] at h; cases h
  · exact h
  all_goals (rw [h2] at h; cases h)
theorem tokC (f : Bool) (l : List UInt8) (h : (quoN (39 :: l)).2 = true) : tokF f (39 :: l) = (4, (quoN (39 :: l)).1) := by
  unfold tokF
  rw [if_neg (fun g => by simp at g), wordN_not 39 l (by decide), if_neg (by simp), numN_not 39 l (by rw [begNum_d]; simp [show isDig 39 = false by decide]), if_neg (by simp), if_pos ⟨rfl, h⟩]
theorem tokS (f : Bool) (l : List UInt8) (h : (quoN (34 :: l)).2 = true) : tokF f (34 :: l) = (5, (quoN (34 :: l)).1) := by
  unfold tokF
  rw [if_neg (fun g => by simp at g), wordN_not 34 l (by decide), if_neg (by simp), numN_not 34 l (by rw [begNum_d]; simp [show isDig 34 = false by decide]), if_neg (by simp), if_neg (by simp), if_pos ⟨rfl, h⟩]
theorem tokG6 (f : Bool) (c : UInt8) (l : List UInt8) (h0 : ¬ c = 35) (h1 : isLet c = false) (h2 : begNum (c :: l) = false) (h3 : ¬ c = 39) (h4 : ¬ c = 34) (h5 : signN (c :: l) ≠ 0) : tokF f (c :: l) = (6, signN (c :: l)) := by
  rcases tok_cases f c l with ⟨_, h, _⟩ | ⟨_, h, _⟩ | ⟨_, _, h, _⟩ | ⟨_, _, _, h, _⟩ | ⟨_, _, _, h, _⟩ | ⟨_, _, _, h, _⟩ | ⟨_, _, _, _, _, _, h⟩ | ⟨_, _, _, _, _, h, _⟩
  · exact absurd h h0
  · rw [h1] at h; cases h
  · rw [h2] at h; cases h
  · exact absurd h h3
  · exact absurd h h4
  · rcases h with h | h
    · exact absurd h h3
    · exact absurd h h4
  · exact h
  · exact absurd h h5

/-- a token's text, as it stood in some text -/
def GoodT (k : Nat) (x : List UInt8) : Prop := x ≠ [] ∧ ∃ g g' r, (pieceF g' (x ++ r)).1 = 0 ∧ tokF g (x ++ r) = (k, x.length)

theorem piece_ne (f g : Bool) (c : UInt8) (l l' : List UInt8) (h : (pieceF g (c :: l)).1 = 0) (h92 : ¬ c = 92) (hc : c = 47 → comN (c :: l') = 0) : (pieceF f (c :: l')).1 = 0 := by
  rw [pieceF] at h ⊢
  by_cases h1 : c.toNat = 32 ∨ c.toNat = 9
  · rw [if_pos h1] at h; simp at h
  · rw [if_neg h1] at h ⊢
    by_cases h2 : c.toNat = 10
    · rw [if_pos h2] at h; simp at h
    · rw [if_neg h2] at h ⊢
      by_cases h3 : c.toNat = 11 ∨ c.toNat = 12 ∨ c.toNat = 13
      · rw [if_pos h3] at h; simp at h
      · rw [if_neg h3] at h ⊢
        by_cases h4 : c.toNat = 92
        · exact absurd (UInt8.toNat_inj.1 (show c.toNat = UInt8.toNat 92 from h4)) h92
        · rw [if_neg h4] at h ⊢
          by_cases h5 : c.toNat = 47
          · rw [if_pos h5]
            exact hc (UInt8.toNat_inj.1 (show c.toNat = UInt8.toNat 47 from h5))
          · rw [if_neg h5]

theorem signN_92 (l : List UInt8) : signN (92 :: l) = 0 := signG_head _ _ _ (by decide)
theorem signN_35 (l : List UInt8) : signN (35 :: l) = 1 := by
  obtain ⟨L, hL⟩ : ∃ L, L = signsL.take 46 := ⟨_, rfl⟩
  have e : signsL = L ++ [[35]] := by rw [hL]; rfl
  unfold signN
  rw [e, signG_append _ _ (by decide) _ (fun x hx => signs_ne x (by rw [e]; simp [hx])), signG_head 35 l L (by rw [hL]; decide)]
  simp [List.isPrefixOf]
theorem comN_move (l l' : List UInt8) (g : Bool) (h : (pieceF g (47 :: l)).1 = 0) (hl : ∀ d t, l' = d :: t → d = 32 ∨ ∃ t', l = d :: t') : comN (47 :: l') = 0 := by
  have hc : comN (47 :: l) = 0 := by
    rw [pieceF] at h
    simpa using h
  cases l' with
  | nil => rfl
  | cons d t =>
    rcases hl d t rfl with rfl | ⟨t', rfl⟩
    · simp [comN]
    · rw [comN] at hc ⊢
      by_cases h1 : (47 : UInt8).toNat = 47 ∧ d.toNat = 47
      · rw [if_pos h1, upTo, if_neg (by decide)] at hc; omega
      · rw [if_neg h1] at hc ⊢
        by_cases h2 : (47 : UInt8).toNat = 47 ∧ d.toNat = 42
        · rw [if_pos h2] at hc; omega
        · rw [if_neg h2]

set_option maxRecDepth 100000 in
theorem good_move (k : Nat) (x : List UInt8) (h : GoodT k x) (h7 : k ≠ 7) (h8 : k ≠ 8) (h35 : ¬ (k = 6 ∧ x = [35])) (r' : List UInt8) (hs : Sep r') (f : Bool) : tokF f (x ++ r') = (k, x.length) ∧ (pieceF f (x ++ r')).1 = 0 := by
  obtain ⟨hx, g, g', r, hp, ht⟩ := h
  cases x with
  | nil => exact absurd rfl hx
  | cons c y =>
    rw [List.cons_append] at hp ht ⊢
    have n92 : ∀ l : List UInt8, ¬ c = 92 → (c = 47 → comN (c :: (y ++ r')) = 0) → (pieceF f (c :: (y ++ r'))).1 = 0 := fun _ a b => piece_ne f g' c _ _ hp a b
    rcases tok_cases g c (y ++ r) with ⟨_, e0, e⟩ | ⟨_, e1, e⟩ | ⟨_, e1, e2, e⟩ | ⟨_, e1, e2, e3, e4, e⟩ | ⟨_, e1, e2, e3, e4, e⟩ | ⟨_, e1, e2, e3, e4, e⟩ | ⟨_, e1, e2, e3, e4, e5, e⟩ | ⟨_, e1, e2, e3, e4, e5, e⟩
    · rw [e] at ht; simp at ht; omega
    · have c35 : ¬ c = 35 := fun q => by rw [q] at e1; exact absurd e1 (by decide)
      have c92 : ¬ c = 92 := fun q => by rw [q] at e1; exact absurd e1 (by decide)
      have c47 : ¬ c = 47 := fun q => by rw [q] at e1; exact absurd e1 (by decide)
      rw [e] at ht
      simp only [Prod.mk.injEq] at ht
      obtain ⟨t1, t2⟩ := ht
      rw [← List.cons_append] at t2
      have t3 := wordT_move (c :: y) r r' hs t2
      refine ⟨?_, n92 [] c92 (fun q => absurd q c47)⟩
      rw [tokW f c _ c35 e1, ← t1, ← List.cons_append, t3, ← List.cons_append, t2, List.take_left, List.take_left]
    · have c35 : ¬ c = 35 := fun q => by rw [begNum_d, q, show isDig 35 = false by decide] at e2; simp at e2
      have c92 : ¬ c = 92 := fun q => by rw [begNum_d, q, show isDig 92 = false by decide] at e2; simp at e2
      have c47 : ¬ c = 47 := fun q => by rw [begNum_d, q, show isDig 47 = false by decide] at e2; simp at e2
      rw [e] at ht
      simp only [Prod.mk.injEq, List.length_cons] at ht
      obtain ⟨t1, t2⟩ := ht
      have t3 := numT_move c y r r' hs (by omega)
      refine ⟨?_, n92 [] c92 (fun q => absurd q c47)⟩
      rw [tokN f c _ c35 e1 ?_, t3, ← t1]
      · rfl
      · rw [begNum_d] at e2 ⊢
        cases hd : isDig c
        · rw [hd] at e2
          simp only [Bool.false_or, Bool.and_eq_true, decide_eq_true_eq] at e2 ⊢
          refine ⟨e2.1, ?_⟩
          cases y with
          | nil =>
            exfalso
            cases r with
            | nil => simp at e2; exact absurd e2.2 (by decide)
            | cons d r =>
              simp only [List.nil_append, List.headD_cons, List.length_nil] at e2 t2
              have : inNum c d = true := by
                unfold inNum
                by_cases q1 : d.toNat = 43 ∨ d.toNat = 45
                · exfalso
                  have := e2.2
                  unfold isDig at this
                  simp at this
                  omega
                · rw [if_neg q1]
                  by_cases q2 : d.toNat = 46
                  · rw [if_pos q2]
                  · rw [if_neg q2, e2.2, Bool.or_true]
              rw [numT, if_pos this] at t2
              omega
          | cons d y => simpa using e2.2
        · rfl
    · subst e3
      rw [e] at ht
      simp only [Prod.mk.injEq, List.length_cons] at ht
      obtain ⟨t1, t2⟩ := ht
      rw [quoN] at e4 t2
      simp only at e4 t2
      have t3 := quoT_move 39 false y r r' (Prod.ext (by simp only; omega) e4)
      refine ⟨?_, n92 [] (by decide) (fun q => absurd q (by decide))⟩
      rw [tokC f _ (by rw [quoN, t3]), quoN, t3, ← t1]
      rfl
    · subst e3
      rw [e] at ht
      simp only [Prod.mk.injEq, List.length_cons] at ht
      obtain ⟨t1, t2⟩ := ht
      rw [quoN] at e4 t2
      simp only at e4 t2
      have t3 := quoT_move 34 false y r r' (Prod.ext (by simp only; omega) e4)
      refine ⟨?_, n92 [] (by decide) (fun q => absurd q (by decide))⟩
      rw [tokS f _ (by rw [quoN, t3]), quoN, t3, ← t1]
      rfl
    · rw [e] at ht; simp at ht; omega
    · rw [e] at ht
      simp only [Prod.mk.injEq] at ht
      obtain ⟨t1, t2⟩ := ht
      have c35 : ¬ c = 35 := fun q => by
        subst q
        rw [signN_35, List.length_cons] at t2
        have : y = [] := List.eq_nil_of_length_eq_zero (by omega)
        exact h35 ⟨t1.symm, by rw [this]⟩
      have c92 : ¬ c = 92 := fun q => by subst q; exact e5 (signN_92 _)
      rw [← List.cons_append] at t2
      have t3 := signN_move (c :: y) r r' hs t2 (by simp)
      refine ⟨?_, n92 [] c92 (fun q => ?_)⟩
      · rw [tokG6 f c _ c35 e1 ?_ e3 e4 (by rw [← List.cons_append, t3]; simp), ← List.cons_append, t3, ← t1]
        rw [begNum_d] at e2 ⊢
        have hd : isDig c = false := by cases hd : isDig c <;> simp_all
        rw [hd] at e2 ⊢
        cases y with
        | nil =>
          rcases hs with rfl | ⟨t, rfl⟩
          · simp [show isDig 0 = false by decide]
          · simp [show isDig 32 = false by decide]
        | cons d y => simpa using e2
      · subst q
        refine comN_move (y ++ r) _ g' hp fun d t hl => ?_
        cases y with
        | nil =>
          rcases hs with rfl | ⟨t2, rfl⟩
          · simp at hl
          · simp only [List.nil_append, List.cons.injEq] at hl
            exact .inl hl.1.symm
        | cons e y =>
          simp only [List.cons_append, List.cons.injEq] at hl
          exact .inr ⟨y ++ r, by rw [List.cons_append, hl.1]⟩
    · rw [e] at ht; simp at ht; omega

theorem skipF_stop : ∀ (n : Nat) (f : Bool) (l : List UInt8), l.length ≤ n → ∃ g, (pieceF g (l.drop (skipF f l).1)).1 = 0
  | 0, f, l, h => by
    have : l = [] := List.eq_nil_of_length_eq_zero (by omega)
    subst this
    exact ⟨f, by simp [pieceF]⟩
  | n + 1, f, l, h => by
    rw [skipF_step]
    by_cases g : (pieceF f l).1 = 0
    · rw [if_pos g]; exact ⟨f, by simpa using g⟩
    · rw [if_neg g]
      obtain ⟨q, hq⟩ := skipF_stop n (pieceF f l).2 (l.drop (pieceF f l).1) (by rw [List.length_drop]; omega)
      exact ⟨q, by rw [List.drop_drop] at hq; exact hq⟩

/-- each token but the end is one of a text's -/
theorem good_toks : ∀ (n : Nat) (f : Bool) (a : Nat) (l : List UInt8), l.length ≤ n → ∀ t ∈ tokR f a l, (t.k = 0 ∧ t.x.data.toList = []) ∨ (1 ≤ t.k ∧ t.k ≤ 8 ∧ GoodT t.k t.x.data.toList)
  | n, f, a, l, hn, t, ht => by
    rw [tokR_step] at ht
    by_cases g : l.length ≤ (skipF f l).1
    · rw [if_pos g] at ht
      obtain rfl : t = endTk f a l := by simpa using ht
      exact .inl ⟨rfl, rfl⟩
    · rw [if_neg g, List.mem_cons] at ht
      rcases ht with rfl | ht
      · have hne : l.drop (skipF f l).1 ≠ [] := List.ne_nil_of_length_pos (by rw [List.length_drop]; omega)
        have hle := tokF_le (skipF f l).2 _ hne
        have hk := tokF_kind (skipF f l).2 (l.drop (skipF f l).1)
        obtain ⟨q, hq⟩ := skipF_stop l.length f l (Nat.le_refl _)
        refine .inr ⟨hk.1, hk.2, ?_⟩
        have ex : (theTk f a l).x.data.toList = (l.drop (skipF f l).1).take (tokF (skipF f l).2 (l.drop (skipF f l).1)).2 := rfl
        have ek : (theTk f a l).k = (tokF (skipF f l).2 (l.drop (skipF f l).1)).1 := rfl
        rw [ex, ek]
        refine ⟨fun e => ?_, (skipF f l).2, q, (l.drop (skipF f l).1).drop (tokF (skipF f l).2 (l.drop (skipF f l).1)).2, ?_, ?_⟩
        · have := congrArg List.length e
          rw [List.length_take, List.length_nil] at this
          omega
        · rw [List.take_append_drop]; exact hq
        · rw [List.take_append_drop, List.length_take, Nat.min_eq_left hle.2]
      · have hl := left_less f l g
        cases n with
        | zero => omega
        | succ n => exact good_toks n _ _ _ (by omega) t ht

/-- texts with a blank before each -/
def flatP : List (Nat × List UInt8) → List UInt8
  | [] => []
  | t :: ts => 32 :: (t.2 ++ flatP ts)
theorem flatP_sep (ts : List (Nat × List UInt8)) : Sep (flatP ts) := by
  cases ts with
  | nil => exact .inl rfl
  | cons t ts => exact .inr ⟨_, rfl⟩
/-- texts with blanks between -/
def joinP : List (Nat × List UInt8) → List UInt8
  | [] => []
  | t :: ts => t.2 ++ flatP ts
def kx (t : Tk) : Nat × List UInt8 := (t.k, t.x.data.toList)
/-- what may be joined -/
def Fit (t : Nat × List UInt8) : Prop := GoodT t.1 t.2 ∧ t.1 ≠ 7 ∧ t.1 ≠ 8 ∧ ¬ (t.1 = 6 ∧ t.2 = [35])

theorem skipF_zero (f : Bool) (l : List UInt8) (h : (pieceF f l).1 = 0) : (skipF f l).1 = 0 := by rw [skipF_step, if_pos h]
theorem first_tok (f : Bool) (a : Nat) (l x r : List UInt8) (k : Nat) (hx : x ≠ []) (d : Nat) (hs : (skipF f l).1 = d) (hl : l.drop d = x ++ r) (ht : ∀ g, tokF g (x ++ r) = (k, x.length)) : ∃ t b, kx t = (k, x) ∧ tokR f a l = t :: tokR false b r := by
  have hlen : d + (x.length + r.length) ≤ l.length := by
    have := congrArg List.length hl
    rw [List.length_drop, List.length_append] at this
    have := List.length_pos_iff.2 hx
    omega
  have hxp := List.length_pos_iff.2 hx
  rw [tokR_step, hs, if_neg (by omega), hl, ht]
  refine ⟨_, _, ?_, by rw [List.drop_left]⟩
  unfold theTk kx
  rw [hs, hl, ht]
  simp

theorem flat_toks : ∀ (ts : List (Nat × List UInt8)), (∀ t ∈ ts, Fit t) → ∀ f a, (tokR f a (flatP ts)).map kx = ts ++ [(0, [])]
  | [], _, f, a => by
    rw [tokR_step]
    simp [flatP, endTk, kx]
  | t :: ts, h, f, a => by
    obtain ⟨h1, h2, h3, h4⟩ := h t (by simp)
    have hm := good_move t.1 t.2 h1 h2 h3 h4 (flatP ts) (flatP_sep ts)
    have hp : pieceF f (32 :: (t.2 ++ flatP ts)) = (1, f) := by simp [pieceF]
    have hs : (skipF f (32 :: (t.2 ++ flatP ts))).1 = 1 := by
      rw [skipF_step, hp]
      simp only [List.drop_succ_cons, List.drop_zero]
      rw [if_neg (by omega), skipF_zero f _ (hm f).2]
    obtain ⟨x, b, e1, e2⟩ := first_tok f a (flatP (t :: ts)) t.2 (flatP ts) t.1 h1.1 1 hs rfl (fun g => (hm g).1)
    rw [e2, List.map_cons, e1, flat_toks ts (fun y hy => h y (by simp [hy]))]
    rfl
theorem join_toks (ts : List (Nat × List UInt8)) (h : ∀ t ∈ ts, Fit t) (a : Nat) : (tokR true a (joinP ts)).map kx = ts ++ [(0, [])] := by
  cases ts with
  | nil => exact flat_toks [] (fun _ h => by cases h) true a
  | cons t ts =>
    obtain ⟨h1, h2, h3, h4⟩ := h t (by simp)
    have hm := good_move t.1 t.2 h1 h2 h3 h4 (flatP ts) (flatP_sep ts)
    obtain ⟨x, b, e1, e2⟩ := first_tok true a (joinP (t :: ts)) t.2 (flatP ts) t.1 h1.1 0 (skipF_zero _ _ (hm true).2) rfl (fun g => (hm g).1)
    rw [e2, List.map_cons, e1, flat_toks ts (fun y hy => h y (by simp [hy]))]
    rfl

end Go.Proofs.YtjdpkhjoecfhlaaGreatDoor
