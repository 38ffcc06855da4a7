/- Cond, plain: the words of a directive: a # is always a sign; what the program makes of them (each # a byte that is odd), what the document makes of them (from # to #). Cond, plain: the places of a directive's words. Cond, plain: strings.ReplaceAll of # by @. -/
import Derived.Test.YtjdpkhjoecfhlaaGreatDoorLexOe
import Derived.Test.YtjdpkhjoecfhlaaGreatDoorLexP
import Derived.Lib.Replace

namespace Go.Proofs.YtjdpkhjoecfhlaaGreatDoor
open Go.RowKit Go.Maps Go.Shelf

/-- the token with which a directive's words go on, and its bytes -/
def tokD (l : List UInt8) : Nat × Nat := if l.head? = some 35 then (6, 1) else tokF false l
theorem tokD_le (l : List UInt8) (h : l ≠ []) : 1 ≤ (tokD l).2 ∧ (tokD l).2 ≤ l.length := by
  unfold tokD
  split
  · exact ⟨Nat.le_refl _, List.length_pos_iff.2 h⟩
  · exact tokF_le false l h
theorem piece_size (f g : Bool) (l : List UInt8) : (pieceF f l).1 = (pieceF g l).1 := by
  cases l with
  | nil => rfl
  | cons c l =>
    rw [pieceF, pieceF]
    repeat' split
    all_goals rfl
theorem skip_size : ∀ (n : Nat) (f g : Bool) (l : List UInt8), l.length ≤ n → (skipF f l).1 = (skipF g l).1
  | 0, f, g, l, h => by
    obtain rfl : l = [] := List.eq_nil_of_length_eq_zero (by omega)
    rw [Nat.le_zero.1 (skipF_le f []), Nat.le_zero.1 (skipF_le g [])]
  | n + 1, f, g, l, h => by
    have e := piece_size f g l
    rw [skipF_step f, skipF_step g]
    by_cases c : (pieceF f l).1 = 0
    · rw [if_pos c, if_pos (by rw [← e]; exact c)]
    · rw [if_neg c, if_neg (by rw [← e]; exact c)]
      simp only [← e]
      rw [skip_size n (pieceF f l).2 (pieceF g l).2 _ (by rw [List.length_drop]; omega)]

/-- the words of a directive's text behind its #, and the end -/
def dirG : Nat → Nat → List UInt8 → List Tk
  | 0, _, _ => []
  | k + 1, a, l => if l.length ≤ (skipF true l).1 then [endTk true a l]
    else ⟨(tokD (l.drop (skipF true l).1)).1, ⟨(l.take (skipF true l).1).toArray⟩, ⟨((l.drop (skipF true l).1).take (tokD (l.drop (skipF true l).1)).2).toArray⟩, a + (skipF true l).1⟩
      :: dirG k (a + (skipF true l).1 + (tokD (l.drop (skipF true l).1)).2) ((l.drop (skipF true l).1).drop (tokD (l.drop (skipF true l).1)).2)
def dirR (a : Nat) (l : List UInt8) : List Tk := dirG (l.length + 1) a l
theorem dir_less (l : List UInt8) (h : ¬ l.length ≤ (skipF true l).1) : ((l.drop (skipF true l).1).drop (tokD (l.drop (skipF true l).1)).2).length < l.length := by
  have := tokD_le (l.drop (skipF true l).1) (List.ne_nil_of_length_pos (by rw [List.length_drop]; omega))
  rw [List.length_drop] at this
  rw [List.length_drop, List.length_drop]
  omega
theorem dirG_more : ∀ k a l, l.length < k → dirG k a l = dirG (k + 1) a l
  | 0, _, _, h => absurd h (Nat.not_lt_zero _)
  | k + 1, a, l, h => by
    rw [dirG, dirG]
    by_cases g : l.length ≤ (skipF true l).1
    · rw [if_pos g, if_pos g]
    · rw [if_neg g, if_neg g, dirG_more k _ _ (by have := dir_less l g; omega)]
theorem dirG_enough (a : Nat) (l : List UInt8) (k : Nat) (hk : l.length < k) : dirG k a l = dirR a l := by
  obtain ⟨d, rfl⟩ : ∃ d, k = l.length + 1 + d := ⟨k - (l.length + 1), by omega⟩
  induction d with
  | zero => rfl
  | succ d ih => rw [← Nat.add_assoc, ← dirG_more _ _ _ (by omega)]; exact ih (by omega)
theorem D_nil (a : Nat) : dirR a [] = [⟨0, ⟨#[]⟩, ⟨#[]⟩, a⟩] := by
  have : (skipF true []).1 = 0 := Nat.le_zero.1 (skipF_le true [])
  rw [dirR, dirG, if_pos (by simp)]
  simp [endTk, this]
theorem D_piece (f : Bool) (a : Nat) (l : List UInt8) (h : (pieceF f l).1 ≠ 0) : dirR a l = addB (l.take (pieceF f l).1) (dirR (a + (pieceF f l).1) (l.drop (pieceF f l).1)) := by
  have hs := skipF_step true l
  have hp := piece_size true f l
  rw [if_neg (by rw [hp]; exact h)] at hs
  have hle := pieceF_le f l
  have hss := skip_size l.length (pieceF true l).2 true (l.drop (pieceF true l).1) (by rw [List.length_drop]; omega)
  have hs1 : (skipF true l).1 = (pieceF f l).1 + (skipF true (l.drop (pieceF f l).1)).1 := by rw [hs, hss, hp]
  rw [dirR, dirG, dirR, dirG, hs1]
  generalize (pieceF f l).1 = p at *
  generalize hk : (skipF true (l.drop p)).1 = k at *
  rw [List.length_drop]
  by_cases c : l.length ≤ p + k
  · rw [if_pos c, if_pos (by omega)]
    simp only [addB, endTk, hs1, hk, List.cons.injEq, and_true, Tk.mk.injEq, true_and]
    refine ⟨?_, by omega⟩
    rw [List.take_add]
  · rw [if_neg c, if_neg (by omega)]
    have hl1 : l.length + 1 = l.length + 1 := rfl
    simp only [addB, List.drop_drop, Nat.add_assoc, List.cons.injEq, Tk.mk.injEq, true_and]
    have hz := tokD_le (l.drop (p + k)) (List.ne_nil_of_length_pos (by rw [List.length_drop]; omega))
    rw [List.length_drop] at hz
    refine ⟨⟨by rw [List.take_add], trivial⟩, ?_⟩
    rw [dirG_enough _ _ _ (by rw [List.length_drop]; omega), dirG_enough _ _ _ (by rw [List.length_drop]; omega)]
theorem D_tok (f : Bool) (a : Nat) (l : List UInt8) (h : (pieceF f l).1 = 0) (hl : l ≠ []) : dirR a l = ⟨(tokD l).1, ⟨#[]⟩, ⟨(l.take (tokD l).2).toArray⟩, a⟩ :: dirR (a + (tokD l).2) (l.drop (tokD l).2) := by
  have hs := skipF_step true l
  rw [if_pos (by rw [piece_size true f]; exact h)] at hs
  have hp := List.length_pos_iff.2 hl
  have hz := tokD_le l hl
  rw [dirR, dirG, hs]
  simp only [List.drop_zero, List.take_zero, Nat.add_zero]
  rw [if_neg (by omega), dirG_enough _ _ _ (by rw [List.length_drop]; omega)]

/-! ### the program's: each # an odd byte -/
def atC (c : UInt8) : UInt8 := if c = 35 then 64 else c
def mapAt (l : List UInt8) : List UInt8 := l.map atC
theorem atC_ne (c d : UInt8) (h1 : ¬ d = 35) (h2 : ¬ d = 64) : (atC c = d) ↔ (c = d) := by
  unfold atC
  by_cases h : c = 35
  · rw [if_pos h, h]
    exact ⟨fun e => absurd e.symm h2, fun e => absurd e.symm h1⟩
  · rw [if_neg h]
theorem atC_nat (c : UInt8) (n : Nat) (h1 : ¬ n = 35) (h2 : ¬ n = 64) : ((atC c).toNat = n) ↔ (c.toNat = n) := by
  unfold atC
  by_cases h : c = 35
  · rw [if_pos h, h]
    exact ⟨fun e => absurd e.symm h2, fun e => absurd e.symm h1⟩
  · rw [if_neg h]
theorem upTo_at : ∀ l, upTo (mapAt l) = upTo l
  | [] => rfl
  | c :: l => by
    have ih := upTo_at l
    show upTo (atC c :: mapAt l) = _
    rw [upTo, upTo, ih]
    simp only [atC_nat c 10 (by decide) (by decide)]
theorem starT_at : ∀ l, starT (mapAt l) = starT l
  | [] => rfl
  | [_] => rfl
  | c :: d :: l => by
    have ih := starT_at (d :: l)
    show starT (atC c :: atC d :: mapAt l) = _
    have e : starT (atC d :: mapAt l) = starT (d :: l) := ih
    rw [starT, starT, e]
    simp only [atC_nat c 42 (by decide) (by decide), atC_nat d 47 (by decide) (by decide)]
theorem comN_at (l : List UInt8) : comN (mapAt l) = comN l := by
  match l with
  | [] => rfl
  | [_] => rfl
  | c :: d :: l =>
    have e : upTo (atC c :: atC d :: mapAt l) = upTo (c :: d :: l) := upTo_at (c :: d :: l)
    show comN (atC c :: atC d :: mapAt l) = _
    rw [comN, comN, starT_at l, e]
    simp only [atC_nat c 47 (by decide) (by decide), atC_nat d 47 (by decide) (by decide), atC_nat d 42 (by decide) (by decide)]
theorem joinN_at (l : List UInt8) : joinN (mapAt l) = joinN l := by
  match l with
  | [] => rfl
  | [c] =>
    show joinN [atC c] = joinN [c]
    simp [joinN]
  | [c, d] =>
    show joinN [atC c, atC d] = joinN [c, d]
    by_cases h : c = 92 ∧ d = 10
    · rw [h.1, h.2]; rfl
    · have h2 : ¬ (atC c = 92 ∧ atC d = 10) := by rw [atC_ne c 92 (by decide) (by decide), atC_ne d 10 (by decide) (by decide)]; exact h
      have e : ∀ x y : UInt8, ¬ (x = 92 ∧ y = 10) → joinN [x, y] = 0 := fun x y g => by
        unfold joinN
        split
        · rename_i r e; simp at e; exact absurd ⟨e.1, e.2.1⟩ g
        · rename_i r e; simp at e
        · rfl
      rw [e _ _ h, e _ _ h2]
  | c :: d :: e :: l =>
    show joinN (atC c :: atC d :: atC e :: mapAt l) = joinN (c :: d :: e :: l)
    have key : ∀ (x y z : UInt8) (r : List UInt8), joinN (x :: y :: z :: r) = if x = 92 ∧ y = 10 then 2 else if x = 92 ∧ y = 13 ∧ z = 10 then 3 else 0 := fun x y z r => by
      unfold joinN
      split
      · rename_i q e; simp only [List.cons.injEq] at e; rw [if_pos ⟨e.1, e.2.1⟩]
      · rename_i q e; simp only [List.cons.injEq] at e
        rw [if_neg (fun g => by rw [e.2.1] at g; exact absurd g.2 (by decide)), if_pos ⟨e.1, e.2.1, e.2.2.1⟩]
      · rename_i q1 q2
        rw [if_neg (fun g => q1 (z :: r) (by rw [g.1, g.2])), if_neg (fun g => q2 r (by rw [g.1, g.2.1, g.2.2]))]
    rw [key, key]
    simp only [atC_ne c 92 (by decide) (by decide), atC_ne d 10 (by decide) (by decide), atC_ne d 13 (by decide) (by decide), atC_ne e 10 (by decide) (by decide)]
theorem contains_at : ∀ l : List UInt8, (mapAt l).contains 10 = l.contains 10
  | [] => rfl
  | c :: l => by
    have ih := contains_at l
    show (atC c :: mapAt l).contains 10 = _
    rw [List.contains_cons, List.contains_cons, ih]
    congr 1
    have h := atC_ne c 10 (by decide) (by decide)
    rw [Bool.eq_iff_iff]
    simp only [beq_iff_eq]
    exact ⟨fun e => (h.1 e.symm).symm, fun e => (h.2 e.symm).symm⟩
theorem take_at (l : List UInt8) (n : Nat) : (mapAt l).take n = mapAt (l.take n) := by unfold mapAt; rw [List.map_take]
theorem drop_at_ (l : List UInt8) (n : Nat) : (mapAt l).drop n = mapAt (l.drop n) := by unfold mapAt; rw [List.map_drop]
theorem mapAt_len (l : List UInt8) : (mapAt l).length = l.length := by unfold mapAt; rw [List.length_map]
theorem piece_at (f : Bool) (l : List UInt8) : pieceF f (mapAt l) = pieceF f l := by
  cases l with
  | nil => rfl
  | cons c l =>
    have h1 := comN_at (c :: l)
    have h2 := joinN_at (c :: l)
    have h3 : (mapAt (c :: l)).take (comN (c :: l)) = mapAt ((c :: l).take (comN (c :: l))) := take_at _ _
    have h4 := contains_at ((c :: l).take (comN (c :: l)))
    rw [← h3] at h4
    have e : mapAt (c :: l) = atC c :: mapAt l := rfl
    rw [e] at h1 h2 h3 h4 ⊢
    rw [pieceF, pieceF, h1, h2, h4]
    simp only [atC_nat c 32 (by decide) (by decide), atC_nat c 9 (by decide) (by decide), atC_nat c 10 (by decide) (by decide), atC_nat c 11 (by decide) (by decide), atC_nat c 12 (by decide) (by decide), atC_nat c 13 (by decide) (by decide), atC_nat c 92 (by decide) (by decide), atC_nat c 47 (by decide) (by decide)]

theorem isLet_at (c : UInt8) : isLet (atC c) = isLet c := by
  unfold atC
  by_cases h : c = 35
  · rw [if_pos h, h]; decide
  · rw [if_neg h]
theorem isDig_at (c : UInt8) : isDig (atC c) = isDig c := by
  unfold atC
  by_cases h : c = 35
  · rw [if_pos h, h]; decide
  · rw [if_neg h]
theorem wordT_at' : ∀ l, wordT (mapAt l) = wordT l
  | [] => rfl
  | c :: l => by
    show wordT (atC c :: mapAt l) = _
    rw [wordT, wordT, wordT_at' l, isLet_at, isDig_at]
theorem word_at (l : List UInt8) : (mapAt l).take (wordT l) = l.take (wordT l) := by
  induction l with
  | nil => rfl
  | cons c l ih =>
    show (atC c :: mapAt l).take (wordT (c :: l)) = _
    rw [wordT]
    by_cases h : (isLet c || isDig c) = true
    · rw [if_pos h, List.take_succ_cons, List.take_succ_cons, ih]
      congr 1
      unfold atC
      rw [if_neg]
      intro e
      rw [e] at h
      exact absurd h (by decide)
    · rw [if_neg h]; rfl
theorem inNum_at (p c : UInt8) : inNum (atC p) (atC c) = inNum p c := by
  unfold inNum
  simp only [atC_nat c 43 (by decide) (by decide), atC_nat c 45 (by decide) (by decide), atC_nat c 46 (by decide) (by decide), atC_nat p 101 (by decide) (by decide), atC_nat p 69 (by decide) (by decide), isLet_at, isDig_at]
theorem numT_at : ∀ (p : UInt8) (l : List UInt8), numT (atC p) (mapAt l) = numT p l
  | _, [] => rfl
  | p, c :: l => by
    show numT (atC p) (atC c :: mapAt l) = _
    rw [numT, numT, inNum_at, numT_at c l]
theorem begNum_at (c : UInt8) (l : List UInt8) : begNum (atC c :: mapAt l) = begNum (c :: l) := by
  rw [begNum_d, begNum_d, isDig_at]
  have e : isDig ((mapAt l).headD 0) = isDig (l.headD 0) := by
    cases l with
    | nil => rfl
    | cons d l => exact isDig_at d
  rw [e]
  simp only [atC_nat c 46 (by decide) (by decide)]
theorem quoT_at' (q : UInt8) (h1 : ¬ q = 35) (h2 : ¬ q = 64) : ∀ (tk : Bool) (l : List UInt8), quoT q tk (mapAt l) = quoT q tk l
  | _, [] => rfl
  | tk, c :: l => by
    show quoT q tk (atC c :: mapAt l) = _
    rw [quoT, quoT]
    simp only [atC_nat c 10 (by decide) (by decide), atC_nat c 92 (by decide) (by decide), atC_ne c q h1 h2]
    rw [quoT_at' q h1 h2 _ l]
theorem prefix_at : ∀ (g l : List UInt8), (∀ c ∈ g, ¬ c = 35 ∧ ¬ c = 64) → g.isPrefixOf (mapAt l) = g.isPrefixOf l
  | [], _, _ => by simp [List.isPrefixOf]
  | _ :: _, [], _ => rfl
  | d :: g, c :: l, h => by
    show (d :: g).isPrefixOf (atC c :: mapAt l) = _
    rw [List.isPrefixOf, List.isPrefixOf, prefix_at g l (fun x hx => h x (by simp [hx]))]
    congr 1
    obtain ⟨h1, h2⟩ := h d (by simp)
    rw [Bool.eq_iff_iff]
    simp only [beq_iff_eq]
    exact ⟨fun e => ((atC_ne c d h1 h2).1 e.symm).symm, fun e => ((atC_ne c d h1 h2).2 e.symm).symm⟩
theorem signG_at' (l : List UInt8) (hl : l.head? ≠ some 35) (hl2 : (mapAt l).head? ≠ some 35) : ∀ L : List (List UInt8), (∀ g ∈ L, (∀ c ∈ g, ¬ c = 35 ∧ ¬ c = 64) ∨ g = [35]) → signG L (mapAt l) = signG L l
  | [], _ => rfl
  | g :: L, h => by
    rw [signG, signG, signG_at' l hl hl2 L (fun y hy => h y (by simp [hy]))]
    rcases h g (by simp) with h1 | h1
    · rw [prefix_at g l h1]
    · subst h1
      have e1 : ([35] : List UInt8).isPrefixOf l = false := by
        cases l with
        | nil => rfl
        | cons c l => simp at hl; simp [List.isPrefixOf, Ne.symm hl]
      have e2 : ([35] : List UInt8).isPrefixOf (mapAt l) = false := by
        cases hm : mapAt l with
        | nil => rfl
        | cons c m => rw [hm] at hl2; simp at hl2; simp [List.isPrefixOf, Ne.symm hl2]
      rw [e1, e2]
theorem signs_at : ∀ g ∈ signsL, (∀ c ∈ g, ¬ c = 35 ∧ ¬ c = 64) ∨ g = [35] := by decide
theorem mapAt_head (l : List UInt8) : (mapAt l).head? ≠ some 35 := by
  cases l with
  | nil => simp [mapAt]
  | cons c l =>
    show some (atC c) ≠ some 35
    unfold atC
    by_cases h : c = 35
    · rw [if_pos h]; decide
    · rw [if_neg h]; simpa using h

/-- a token behind the exchange -/
theorem tok_at (f : Bool) (l : List UInt8) (hl : l ≠ []) : tokF f (mapAt l) = if l.head? = some 35 then (8, 1) else tokD l := by
  cases l with
  | nil => exact absurd rfl hl
  | cons c l =>
    have e : mapAt (c :: l) = atC c :: mapAt l := rfl
    by_cases h : c = 35
    · subst h
      rw [if_pos (show (35 :: l).head? = some 35 from rfl), e, show atC 35 = 64 by decide]
      rw [tokX f 64 _ (fun g => absurd g.2 (by decide)) (by decide) (by rw [begNum_d]; simp [show isDig 64 = false by decide]) (by decide) (by decide), if_neg]
      have : signN (64 :: mapAt l) = 0 := signG_head _ _ _ (by decide)
      rw [this]
      simp
    · have hh : ¬ (c :: l).head? = some 35 := by simpa using h
      have hm := mapAt_head (c :: l)
      have hm' : ¬ (atC c :: mapAt l).head? = some 35 := hm
      rw [if_neg hh]
      unfold tokD
      rw [if_neg hh, tokF_flag f false _ hm]
      have h1 : wordN (mapAt (c :: l)) = wordN (c :: l) := by rw [e, wordN, wordN, isLet_at, wordT_at']
      have h3 : numN (mapAt (c :: l)) = numN (c :: l) := by rw [e, numN, numN, begNum_at, numT_at]
      have h4 : signN (mapAt (c :: l)) = signN (c :: l) := signG_at' _ hh hm signsL signs_at
      have hw : (mapAt (c :: l)).take (wordN (c :: l)) = (c :: l).take (wordN (c :: l)) := by
        by_cases g : isLet c = true
        · rw [(wordN_let c l g).1]; exact word_at _
        · rw [wordN_not c l (by simpa using g)]; rfl
      have q : ∀ v : UInt8, ¬ v = 35 → ¬ v = 64 → (mapAt (c :: l)).head? = some v → (c :: l).head? = some v ∧ quoN (mapAt (c :: l)) = quoN (c :: l) := fun v v1 v2 g => by
        have hc : c = v := (atC_ne c v v1 v2).1 (by rw [e] at g; simpa using g)
        refine ⟨by rw [hc]; rfl, ?_⟩
        rw [e, quoN, quoN]
        have ha : atC c = c := by unfold atC; rw [if_neg h]
        rw [ha, quoT_at' c h (by rw [hc]; exact v2)]
      have q' : ∀ v : UInt8, ¬ v = 35 → ¬ v = 64 → (c :: l).head? = some v → (mapAt (c :: l)).head? = some v := fun v v1 v2 g => by
        rw [e]
        have hc : c = v := by simpa using g
        show some (atC c) = some v
        rw [(atC_ne c v v1 v2).2 hc]
      have a39 : ((mapAt (c :: l)).head? = some 39 ∧ (quoN (mapAt (c :: l))).2 = true) ↔ ((c :: l).head? = some 39 ∧ (quoN (c :: l)).2 = true) := by
        constructor
        · rintro ⟨g1, g2⟩
          obtain ⟨k1, k2⟩ := q 39 (by decide) (by decide) g1
          exact ⟨k1, by rw [← k2]; exact g2⟩
        · rintro ⟨g1, g2⟩
          have k := q' 39 (by decide) (by decide) g1
          exact ⟨k, by rw [(q 39 (by decide) (by decide) k).2]; exact g2⟩
      have a34 : ((mapAt (c :: l)).head? = some 34 ∧ (quoN (mapAt (c :: l))).2 = true) ↔ ((c :: l).head? = some 34 ∧ (quoN (c :: l)).2 = true) := by
        constructor
        · rintro ⟨g1, g2⟩
          obtain ⟨k1, k2⟩ := q 34 (by decide) (by decide) g1
          exact ⟨k1, by rw [← k2]; exact g2⟩
        · rintro ⟨g1, g2⟩
          have k := q' 34 (by decide) (by decide) g1
          exact ⟨k, by rw [(q 34 (by decide) (by decide) k).2]; exact g2⟩
      unfold tokF
      simp only [Bool.false_eq_true, false_and, if_false]
      rw [h1, h3, h4, hw]
      by_cases w1 : wordN (c :: l) ≠ 0
      · rw [if_pos w1, if_pos w1]
      · rw [if_neg w1, if_neg w1]
        by_cases w2 : numN (c :: l) ≠ 0
        · rw [if_pos w2, if_pos w2]
        · rw [if_neg w2, if_neg w2]
          by_cases w3 : (c :: l).head? = some 39 ∧ (quoN (c :: l)).2 = true
          · rw [if_pos (a39.2 w3), if_pos w3, (q 39 (by decide) (by decide) (a39.2 w3).1).2]
          · rw [if_neg (fun g => w3 (a39.1 g)), if_neg w3]
            by_cases w4 : (c :: l).head? = some 34 ∧ (quoN (c :: l)).2 = true
            · rw [if_pos (a34.2 w4), if_pos w4, (q 34 (by decide) (by decide) (a34.2 w4).1).2]
            · rw [if_neg (fun g => w4 (a34.1 g)), if_neg w4]

/-- a word as the program's exchange has it -/
def toAt (t : Tk) : Tk := ⟨if t.x.data.toList = [35] then 8 else t.k, ⟨(mapAt t.b.data.toList).toArray⟩, ⟨(mapAt t.x.data.toList).toArray⟩, t.a⟩
theorem addB_toAt (p : List UInt8) (l : List Tk) : (addB p l).map toAt = addB (mapAt p) (l.map toAt) := by
  cases l with
  | nil => rfl
  | cons t l => simp [addB, toAt, mapAt]
theorem prog_words : ∀ (n : Nat) (f : Bool) (a : Nat) (l : List UInt8), l.length < n → tokR f a (mapAt l) = (dirR a l).map toAt
  | 0, _, _, _, h => by omega
  | n + 1, f, a, l, h => by
    by_cases hl : l = []
    · subst hl
      rw [show mapAt [] = [] from rfl, R_nil, D_nil]
      simp [toAt, mapAt]
    · have hpe := piece_at f l
      by_cases hp : (pieceF f l).1 = 0
      · have hz := tokD_le l hl
        have ht := tok_at f l hl
        have hml : mapAt l ≠ [] := fun e => hl (List.eq_nil_of_length_eq_zero (by rw [← mapAt_len, e]; rfl))
        rw [R_tok f a _ (by rw [hpe]; exact hp) hml, D_tok f a l hp hl, ht]
        by_cases h35 : l.head? = some 35
        · have e6 : tokD l = (6, 1) := by unfold tokD; rw [if_pos h35]
          rw [if_pos h35, e6]
          simp only [List.map_cons]
          rw [drop_at_, prog_words n false (a + 1) (l.drop 1) (by rw [List.length_drop]; omega)]
          congr 1
          cases l with
          | nil => exact absurd rfl hl
          | cons c l =>
            have hc : c = 35 := by simpa using h35
            subst hc
            simp [toAt, mapAt]
        · rw [if_neg h35]
          simp only [List.map_cons]
          rw [drop_at_, prog_words n false (a + (tokD l).2) _ (by rw [List.length_drop]; omega)]
          congr 1
          have hx : ¬ l.take (tokD l).2 = [35] := fun e => by
            cases l with
            | nil => exact absurd rfl hl
            | cons c l =>
              obtain ⟨m, hm⟩ : ∃ m, (tokD (c :: l)).2 = m + 1 := ⟨(tokD (c :: l)).2 - 1, by omega⟩
              rw [hm, List.take_succ_cons] at e
              simp only [List.cons.injEq] at e
              exact h35 (by rw [e.1]; rfl)
          simp only [toAt, if_neg hx, take_at, Tk.mk.injEq, true_and, and_true]
          rfl
      · have hle := pieceF_le f l
        rw [R_piece f a _ (by rw [hpe]; exact hp), hpe, D_piece f a l hp, addB_toAt, drop_at_, take_at, prog_words n _ (a + (pieceF f l).1) _ (by rw [List.length_drop]; omega)]

/-! ### the document's: from # to # -/
theorem tok_not7 (f : Bool) (l : List UInt8) (h : ¬ (f = true ∧ l.head? = some 35)) : (tokF f l).1 ≠ 7 := by
  unfold tokF
  rw [if_neg h]
  split
  · split <;> simp
  · split
    · simp
    · split
      · simp
      · split
        · simp
        · split <;> simp
theorem tok_D (f : Bool) (l : List UInt8) (h : ¬ (f = true ∧ l.head? = some 35)) : tokF f l = tokD l := by
  unfold tokD
  by_cases h35 : l.head? = some 35
  · rw [if_pos h35]
    have hf : f = false := by cases f with | false => rfl | true => exact absurd ⟨rfl, h35⟩ h
    subst hf
    cases l with
    | nil => cases h35
    | cons c l =>
      have hc : c = 35 := by simpa using h35
      subst hc
      rw [tokX false 35 l (fun g => absurd g.1 (by decide)) (by decide) (by rw [begNum_d]; simp [show isDig 35 = false by decide]) (by decide) (by decide), signN_35, if_pos (by decide)]
  · rw [if_neg h35]; exact tokF_flag f false l h35
theorem seg : ∀ (n : Nat) (f : Bool) (a : Nat) (l : List UInt8), l.length < n →
    (tokR f a l = dirR a l ∧ ∀ t ∈ tokR f a l, t.k ≠ 7) ∨
    ∃ (X : List Tk) (K : Tk) (Y : List Tk) (q : Nat), tokR f a l = X ++ K :: Y ∧ (∀ t ∈ X, t.k ≠ 7) ∧ K.k = 7 ∧ K.a + 1 = a + q ∧ 1 ≤ q ∧ q ≤ l.length ∧ dirR a l = X ++ ⟨6, K.b, ⟨#[35]⟩, K.a⟩ :: dirR (K.a + 1) (l.drop q)
  | 0, _, _, _, h => by omega
  | n + 1, f, a, l, h => by
    by_cases hl : l = []
    · subst hl
      exact .inl ⟨by rw [R_nil, D_nil], by rw [R_nil]; intro t ht; rw [List.mem_singleton.1 ht]; show (0 : Nat) ≠ 7; decide⟩
    · by_cases hp : (pieceF f l).1 = 0
      · have hz := tokD_le l hl
        by_cases h7 : f = true ∧ l.head? = some 35
        · refine .inr ⟨[], ⟨7, ⟨#[]⟩, ⟨(l.take (tokF f l).2).toArray⟩, a⟩, tokR false (a + (tokF f l).2) (l.drop (tokF f l).2), 1, ?_, by simp, rfl, rfl, Nat.le_refl _, List.length_pos_iff.2 hl, ?_⟩
          · rw [R_tok f a l hp hl]
            have : (tokF f l).1 = 7 := by unfold tokF; rw [if_pos h7]
            rw [this]
            rfl
          · have e6 : tokD l = (6, 1) := by unfold tokD; rw [if_pos h7.2]
            rw [D_tok f a l hp hl, e6]
            cases l with
            | nil => exact absurd rfl hl
            | cons c l =>
              have hc : c = 35 := by simpa using h7.2
              subst hc
              rfl
        · have ht := tok_D f l h7
          have hn := tok_not7 f l h7
          rw [R_tok f a l hp hl, D_tok f a l hp hl, ht]
          rw [ht] at hn
          rcases seg n false (a + (tokD l).2) (l.drop (tokD l).2) (by rw [List.length_drop]; omega) with ⟨e1, e2⟩ | ⟨X, K, Y, q, e1, e2, e3, e4, e5, e6, e7⟩
          · refine .inl ⟨by rw [e1], fun t htm => ?_⟩
            rcases List.mem_cons.1 htm with rfl | htm
            · exact hn
            · exact e2 t htm
          · refine .inr ⟨_ :: X, K, Y, (tokD l).2 + q, by rw [e1]; rfl, fun t htm => ?_, e3, by omega, by omega, by rw [List.length_drop] at e6; omega, by rw [e7, List.drop_drop]; rfl⟩
            rcases List.mem_cons.1 htm with rfl | htm
            · exact hn
            · exact e2 t htm
      · have hle := pieceF_le f l
        rw [R_piece f a l hp, D_piece f a l hp]
        rcases seg n (pieceF f l).2 (a + (pieceF f l).1) (l.drop (pieceF f l).1) (by rw [List.length_drop]; omega) with ⟨e1, e2⟩ | ⟨X, K, Y, q, e1, e2, e3, e4, e5, e6, e7⟩
        · refine .inl ⟨by rw [e1], fun t htm => ?_⟩
          cases hr : tokR (pieceF f l).2 (a + (pieceF f l).1) (l.drop (pieceF f l).1) with
          | nil => rw [hr] at htm; cases htm
          | cons y ys =>
            rw [hr] at htm e2
            rcases List.mem_cons.1 htm with rfl | htm
            · exact e2 y (by simp)
            · exact e2 t (by simp [htm])
        · rw [List.length_drop] at e6
          cases X with
          | nil =>
            refine .inr ⟨[], { K with b := ⟨(l.take (pieceF f l).1 ++ K.b.data.toList).toArray⟩ }, Y, (pieceF f l).1 + q, by rw [e1]; rfl, by simp, e3, by simp only; omega, by omega, by omega, by rw [e7, List.drop_drop]; rfl⟩
          | cons y X =>
            refine .inr ⟨{ y with b := _ } :: X, K, Y, (pieceF f l).1 + q, by rw [e1]; rfl, fun t htm => ?_, e3, by omega, by omega, by omega, by rw [e7, List.drop_drop]; rfl⟩
            rcases List.mem_cons.1 htm with rfl | htm
            · exact e2 y (by simp)
            · exact e2 t (by simp [htm])

end Go.Proofs.YtjdpkhjoecfhlaaGreatDoor

namespace Go.Proofs.YtjdpkhjoecfhlaaGreatDoor
open Go.RowKit

def dirTk (a : Nat) (l : List UInt8) : Tk := ⟨(tokD (l.drop (skipF true l).1)).1, ⟨(l.take (skipF true l).1).toArray⟩, ⟨((l.drop (skipF true l).1).take (tokD (l.drop (skipF true l).1)).2).toArray⟩, a + (skipF true l).1⟩
theorem dirR_step (a : Nat) (l : List UInt8) : dirR a l = if l.length ≤ (skipF true l).1 then [endTk true a l] else
    dirTk a l :: dirR (a + (skipF true l).1 + (tokD (l.drop (skipF true l).1)).2) ((l.drop (skipF true l).1).drop (tokD (l.drop (skipF true l).1)).2) := by
  rw [dirR, dirG]
  split
  · rfl
  · rename_i h
    rw [dirG_enough _ _ _ (dir_less l h)]
    rfl
theorem tokD_kind (l : List UInt8) : 1 ≤ (tokD l).1 ∧ (tokD l).1 ≤ 8 ∧ (tokD l).1 ≠ 7 := by
  unfold tokD
  split
  · simp
  · exact ⟨(tokF_kind false l).1, (tokF_kind false l).2, tok_not7 false l (by simp)⟩

theorem dlaid_end (s : ByteArray) (i : Nat) (hi : i ≤ s.size) (g : (s.data.toList.drop i).length ≤ (skipF true (s.data.toList.drop i)).1) : ∃ P, P 0 = i ∧ Laid s (dirR i (s.data.toList.drop i)) P := by
  obtain ⟨P, h1, h2⟩ := laid_end s true i hi g
  refine ⟨P, h1, ?_⟩
  rw [dirR_step, if_pos g]
  rw [tokR_step, if_pos g] at h2
  exact h2

theorem laid_dirR (s : ByteArray) : ∀ (n : Nat) (i : Nat), s.size - i ≤ n → i ≤ s.size → ∃ P, P 0 = i ∧ Laid s (dirR i (s.data.toList.drop i)) P := by
  intro n
  induction n with
  | zero =>
    intro i h hi
    exact dlaid_end s i hi (by rw [List.length_drop]; simp; omega)
  | succ n ih =>
      intro i h hi
      have h0 := skipF_le true (s.data.toList.drop i)
      rw [List.length_drop] at h0
      simp at h0
      by_cases g : (s.data.toList.drop i).length ≤ (skipF true (s.data.toList.drop i)).1
      · exact dlaid_end s i hi g
      · have g' := g
        rw [List.length_drop] at g'
        simp at g'
        have hne : (s.data.toList.drop i).drop (skipF true (s.data.toList.drop i)).1 ≠ [] := List.ne_nil_of_length_pos (by rw [List.length_drop, List.length_drop]; simp; omega)
        have htl := tokD_le _ hne
        have hk := tokD_kind ((s.data.toList.drop i).drop (skipF true (s.data.toList.drop i)).1)
        rw [dirR_step, if_neg g]
        have hlen : ((s.data.toList.drop i).drop (skipF true (s.data.toList.drop i)).1).length = s.size - i - (skipF true (s.data.toList.drop i)).1 := by
          rw [List.length_drop, List.length_drop]; simp
        rw [hlen] at htl
        have eb : (dirTk i (s.data.toList.drop i)).b = s.extract i (i + (skipF true (s.data.toList.drop i)).1) := by rw [ext_mid]; rfl
        have ex : (dirTk i (s.data.toList.drop i)).x = s.extract (i + (skipF true (s.data.toList.drop i)).1) (i + (skipF true (s.data.toList.drop i)).1 + (tokD ((s.data.toList.drop i).drop (skipF true (s.data.toList.drop i)).1)).2) := by
          rw [ext_mid, ← List.drop_drop]; rfl
        have ea : (dirTk i (s.data.toList.drop i)).a = i + (skipF true (s.data.toList.drop i)).1 := rfl
        have ek : (dirTk i (s.data.toList.drop i)).k = (tokD ((s.data.toList.drop i).drop (skipF true (s.data.toList.drop i)).1)).1 := rfl
        rw [List.drop_drop, List.drop_drop]
        rw [List.drop_drop] at htl hk ex ek
        generalize dirTk i (s.data.toList.drop i) = T at *
        generalize tokD (s.data.toList.drop (i + (skipF true (s.data.toList.drop i)).1)) = kz at *
        generalize (skipF true (s.data.toList.drop i)).1 = z at *
        obtain ⟨P, hP0, hL⟩ := ih (i + z + kz.2) (by omega) (by omega)
        generalize dirR (i + z + kz.2) (s.data.toList.drop (i + z + kz.2)) = r at *
        refine ⟨fun j => match j with | 0 => i | j + 1 => P j, rfl, ?_⟩
        constructor
        · simp
        · intro j h
          cases j with
          | zero => simp [ea]
          | succ j => exact hL.lo j (by simpa using h)
        · intro j h
          cases j with
          | zero => simp only [List.getElem_cons_zero, ea, hP0]; omega
          | succ j => exact hL.hi j (by simpa using h)
        · intro j h
          cases j with
          | zero => simp only [List.getElem_cons_zero, ea, eb]
          | succ j => exact hL.b j (by simpa using h)
        · intro j h
          cases j with
          | zero => simp only [List.getElem_cons_zero, ea, ex, hP0]
          | succ j => exact hL.x j (by simpa using h)
        · intro j h
          cases j with
          | zero => simp only [List.getElem_cons_zero, ea, ek, hP0]; omega
          | succ j => exact hL.mid j (by simpa using h)
        · intro j h hj
          cases j with
          | zero => have := hL.pos; simp only [List.length_cons] at hj; omega
          | succ j => exact hL.last j (by simpa using h) (by simpa using hj)

/-- a word that is # is a sign; each of them is of some kind, none a line -/
theorem dir_kinds : ∀ (n a : Nat) (l : List UInt8), l.length < n → ∀ t ∈ dirR a l, t.k ≤ 8 ∧ t.k ≠ 7 ∧ (t.x.data.toList = [35] → t.k = 6)
  | 0, _, _, h => absurd h (Nat.not_lt_zero _)
  | n + 1, a, l, h => by
    intro t ht
    rw [dirR_step] at ht
    split at ht
    · rw [List.mem_singleton.1 ht]
      refine ⟨by show (0 : Nat) ≤ 8; omega, by show (0 : Nat) ≠ 7; omega, fun h => ?_⟩
      exact absurd h (by show ¬ ([] : List UInt8) = [35]; simp)
    · rename_i g
      rcases List.mem_cons.1 ht with rfl | ht
      · have hk := tokD_kind (l.drop (skipF true l).1)
        refine ⟨hk.2.1, hk.2.2, fun h => ?_⟩
        have h2 : (l.drop (skipF true l).1).take (tokD (l.drop (skipF true l).1)).2 = [35] := by simpa [dirTk] using h
        have h3 : (l.drop (skipF true l).1).head? = some 35 := by
          generalize l.drop (skipF true l).1 = m at *
          cases m with
          | nil => simp at h2
          | cons c m =>
            cases hz : (tokD (c :: m)).2 with
            | zero => rw [hz] at h2; simp at h2
            | succ z => rw [hz] at h2; simp at h2; simp [h2.1]
        show (tokD (l.drop (skipF true l).1)).1 = 6
        unfold tokD
        rw [if_pos h3]
      · exact dir_kinds n _ _ (by have := dir_less l g; omega) t ht
/-- no more words than bytes, and the end -/
theorem dir_len : ∀ (n a : Nat) (l : List UInt8), l.length < n → (dirR a l).length ≤ l.length + 1
  | 0, _, _, h => absurd h (Nat.not_lt_zero _)
  | n + 1, a, l, h => by
    rw [dirR_step]
    split
    · simp
    · rename_i g
      have h1 := dir_less l g
      have h2 := dir_len n (a + (skipF true l).1 + (tokD (l.drop (skipF true l).1)).2) _ (Nat.lt_of_lt_of_le h1 (Nat.le_of_lt_succ h))
      rw [List.length_cons]
      omega

/-- a directive's words, the # before them -/
def wordsL (s : ByteArray) : List Tk := (dirR 0 (s.data.toList.drop 1)).dropLast

end Go.Proofs.YtjdpkhjoecfhlaaGreatDoor

namespace Go.Proofs.YtjdpkhjoecfhlaaGreatDoor
open Go.RowKit

theorem index_hash (c : UInt8) (l : List UInt8) (h : ¬ c = 35) (i : Nat) (e : Lib.index l [35] = i) : Lib.index (c :: l) [35] = (i + 1 : Nat) := by
  rw [Lib.index, if_neg (by simp [List.isPrefixOf, show ¬ (35 : UInt8) = c from fun e => h e.symm]), e, if_neg (by simp)]
  omega
theorem replaceK_at : ∀ l : List UInt8, Lib.replaceK [35] [64] (l.count 35) l = mapAt l
  | [] => rfl
  | c :: l => by
    have ih := replaceK_at l
    by_cases h : c = 35
    · subst h
      have e : Lib.index ((35 : UInt8) :: l) [35] = (0 : Nat) := by
        rw [Lib.index, if_pos (by simp [List.isPrefixOf])]; rfl
      rw [List.count_cons_self, Lib.replaceK_hit _ _ _ _ _ e]
      show [] ++ [64] ++ Lib.replaceK [35] [64] (l.count 35) l = 64 :: mapAt l
      rw [ih]
      rfl
    · rw [List.count_cons_of_ne h]
      have ec : mapAt (c :: l) = c :: mapAt l := by
        show atC c :: mapAt l = _
        unfold atC
        rw [if_neg h]
      rw [ec]
      cases hk : l.count 35 with
      | zero =>
        rw [hk] at ih
        rw [Lib.replaceK] at ih ⊢
        rw [← ih]
      | succ k =>
        obtain ⟨i, hi⟩ := Lib.index_of_count (s := l) (old := [35]) (by rw [Lib.count_one, hk]; omega)
        rw [hk, Lib.replaceK_hit _ _ _ _ _ hi] at ih
        rw [Lib.replaceK_hit _ _ _ _ _ (index_hash c l h i hi), ← ih]
        show c :: l.take i ++ [64] ++ Lib.replaceK [35] [64] k (l.drop (i + 1)) = _
        simp
theorem replaceAll_at (l : List UInt8) : Lib.replaceAll l [35] [64] = mapAt l := by
  unfold Lib.replaceAll Lib.replace Lib.replaceNum
  rw [if_neg (by decide), if_pos (Or.inl (by decide)), Lib.count_one, replaceK_at]

/-- the bytes that lex sees of a directive, and what it makes of them -/
def atB (s : ByteArray) : ByteArray := ⟨(mapAt s.data.toList).toArray⟩
theorem atB_size (s : ByteArray) : (atB s).size = s.size := by
  show (mapAt s.data.toList).toArray.size = _
  rw [List.size_toArray, mapAt_len]
  simp
theorem scan_at (s : ByteArray) (hs : s.size ≤ 30000) : scanE (atB s) = 0 ∧ scanL (atB s) = (dirR 0 s.data.toList).map toAt := by
  have e : tokR true 0 (atB s).data.toList = (dirR 0 s.data.toList).map toAt := by
    show tokR true 0 (mapAt s.data.toList).toArray.toList = _
    rw [List.toList_toArray, prog_words _ true 0 _ (Nat.lt_succ_self _)]
  have hl := dir_len _ 0 s.data.toList (Nat.lt_succ_self _)
  rw [show s.data.toList.length = s.size by simp] at hl
  have ok : scanOk (atB s) = true := by
    unfold scanOk
    rw [e, atB_size]
    simp
    omega
  unfold scanE scanL
  rw [if_pos ok, if_pos ok, e]
  exact ⟨rfl, rfl⟩

end Go.Proofs.YtjdpkhjoecfhlaaGreatDoor
