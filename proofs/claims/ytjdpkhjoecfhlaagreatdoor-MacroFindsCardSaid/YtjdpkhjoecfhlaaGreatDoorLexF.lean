/- Lex, as plain functions over lists of bytes: words, numbers, quotes, lines, comments, signs; what stands before a token; the tokens of a text. -/
import Derived.Lib.Hide
namespace Go.Proofs.YtjdpkhjoecfhlaaGreatDoor

def isLet (c : UInt8) : Bool := (decide (97 ≤ c.toNat) && decide (c.toNat ≤ 122)) || (decide (65 ≤ c.toNat) && decide (c.toNat ≤ 90)) || decide (c.toNat = 95)
def isDig (c : UInt8) : Bool := decide (48 ≤ c.toNat) && decide (c.toNat ≤ 57)

/-- how many letters and digits a text begins with -/
def wordT : List UInt8 → Nat
  | [] => 0
  | c :: l => if (isLet c || isDig c) = true then wordT l + 1 else 0
/-- how many bytes the word has with which a text begins -/
def wordN : List UInt8 → Nat
  | [] => 0
  | c :: l => if isLet c = true then wordT l + 1 else 0

def keysL : List (List UInt8) := [[98, 114, 101, 97, 107], [99, 97, 115, 101], [99, 104, 97, 114], [99, 111, 110, 115, 116], [99, 111, 110, 116, 105, 110, 117, 101], [100, 101, 102, 97, 117, 108, 116], [100, 111], [101, 108, 115, 101], [101, 110, 117, 109], [101, 120, 116, 101, 114, 110], [102, 111, 114], [103, 111, 116, 111], [105, 102], [105, 110, 116], [108, 111, 110, 103], [114, 101, 116, 117, 114, 110], [115, 104, 111, 114, 116], [115, 105, 103, 110, 101, 100], [115, 105, 122, 101, 111, 102], [115, 116, 97, 116, 105, 99], [115, 116, 114, 117, 99, 116], [115, 119, 105, 116, 99, 104], [116, 121, 112, 101, 100, 101, 102], [117, 110, 105, 111, 110], [117, 110, 115, 105, 103, 110, 101, 100], [118, 111, 105, 100], [118, 111, 108, 97, 116, 105, 108, 101], [119, 104, 105, 108, 101]]
def signsL : List (List UInt8) := [[46, 46, 46], [60, 60, 61], [62, 62, 61], [60, 60], [62, 62], [60, 61], [62, 61], [61, 61], [33, 61], [38, 38], [124, 124], [43, 43], [45, 45], [43, 61], [45, 61], [42, 61], [47, 61], [37, 61], [38, 61], [124, 61], [94, 61], [45, 62], [43], [45], [42], [47], [37], [38], [124], [94], [33], [126], [60], [62], [61], [63], [58], [59], [44], [46], [40], [41], [91], [93], [123], [125], [35]]

/-- whether a number goes on with a byte behind another one -/
def inNum (p c : UInt8) : Bool := if c.toNat = 43 ∨ c.toNat = 45 then decide (p.toNat = 101) || decide (p.toNat = 69) else if c.toNat = 46 then true else isLet c || isDig c
def numT : UInt8 → List UInt8 → Nat
  | _, [] => 0
  | p, c :: l => if inNum p c = true then numT c l + 1 else 0
def begNum : List UInt8 → Bool
  | [] => false
  | [c] => isDig c
  | c :: d :: _ => isDig c || (decide (c.toNat = 46) && isDig d)
def numN : List UInt8 → Nat
  | [] => 0
  | c :: l => if begNum (c :: l) = true then numT c l + 1 else 0

/-- how many bytes stand up to a quote's second one, or to the line's end; whether there is a second one -/
def quoT (q : UInt8) : Bool → List UInt8 → Nat × Bool
  | _, [] => (0, false)
  | tk, c :: l => if c.toNat = 10 then (0, false) else if c = q ∧ tk = false then (1, true) else ((quoT q (decide (c.toNat = 92) && !tk) l).1 + 1, (quoT q (decide (c.toNat = 92) && !tk) l).2)
def quoN : List UInt8 → Nat × Bool
  | [] => (1, false)
  | q :: l => ((quoT q false l).1 + 1, (quoT q false l).2)

/-- how many bytes stand before the first line feed, or in all -/
def upTo : List UInt8 → Nat
  | [] => 0
  | c :: l => if c.toNat = 10 then 0 else upTo l + 1
theorem upTo_le : ∀ l, upTo l ≤ l.length
  | [] => Nat.le_refl _
  | c :: l => by
    have := upTo_le l
    rw [upTo]
    split
    · omega
    · simp only [List.length_cons]; omega

/-- a text without a byte 13 at its end -/
def trim13 (l : List UInt8) : List UInt8 := if l.getLast? = some 13 then l.dropLast else l
/-- how many bytes a preprocessor line has, of which so many are known to be its own -/
def lineGo : Nat → List UInt8 → Nat → Nat
  | 0, l, _ => l.length
  | f + 1, l, e => if e + upTo (l.drop e) = l.length then l.length else
      if (trim13 (l.take (e + upTo (l.drop e)))).getLast? = some 92 then lineGo f l (e + upTo (l.drop e) + 1)
      else (trim13 (l.take (e + upTo (l.drop e)))).length
def lineN (l : List UInt8) : Nat := lineGo (l.length + 1) l 0

/-- how many bytes stand up to a comment's end -/
def starT : List UInt8 → Nat
  | [] => 0
  | [_] => 1
  | c :: d :: l => if c.toNat = 42 ∧ d.toNat = 47 then 2 else starT (d :: l) + 1
def comN : List UInt8 → Nat
  | c :: d :: l => if c.toNat = 47 ∧ d.toNat = 47 then upTo (c :: d :: l) else if c.toNat = 47 ∧ d.toNat = 42 then starT l + 2 else 0
  | _ => 0
def joinN : List UInt8 → Nat
  | 92 :: 10 :: _ => 2
  | 92 :: 13 :: 10 :: _ => 3
  | _ => 0

/-- a piece of what stands before a token: its bytes (0: there is none), and whether a line is fresh behind it -/
def pieceF (f : Bool) : List UInt8 → Nat × Bool
  | [] => (0, f)
  | c :: l => if c.toNat = 32 ∨ c.toNat = 9 then (1, f) else if c.toNat = 10 then (1, true) else if c.toNat = 11 ∨ c.toNat = 12 ∨ c.toNat = 13 then (1, false)
      else if c.toNat = 92 then (joinN (c :: l), decide (0 < joinN (c :: l)))
      else if c.toNat = 47 then (comN (c :: l), f || ((c :: l).take (comN (c :: l))).contains 10)
      else (0, f)
def skipG : Nat → Bool → List UInt8 → Nat × Bool
  | 0, f, _ => (0, f)
  | k + 1, f, l => if (pieceF f l).1 = 0 then (0, (pieceF f l).2) else ((pieceF f l).1 + (skipG k (pieceF f l).2 (l.drop (pieceF f l).1)).1, (skipG k (pieceF f l).2 (l.drop (pieceF f l).1)).2)
def skipF (f : Bool) (l : List UInt8) : Nat × Bool := skipG (l.length + 1) f l

/-- how many bytes the sign has with which a text begins -/
def signG : List (List UInt8) → List UInt8 → Nat
  | [], _ => 0
  | g :: gs, l => if g.isPrefixOf l = true then g.length else signG gs l
def signN (l : List UInt8) : Nat := signG signsL l

/-- the kind of the token with which a text begins, and its bytes -/
def tokF (f : Bool) (l : List UInt8) : Nat × Nat :=
  if f = true ∧ l.head? = some 35 then (7, lineN l)
  else if wordN l ≠ 0 then (if keysL.contains (l.take (wordN l)) = true then 2 else 1, wordN l)
  else if numN l ≠ 0 then (3, numN l)
  else if l.head? = some 39 ∧ (quoN l).2 = true then (4, (quoN l).1)
  else if l.head? = some 34 ∧ (quoN l).2 = true then (5, (quoN l).1)
  else if signN l ≠ 0 then (6, signN l)
  else (8, 1)

/-- a token -/
structure Tk where
  k : Nat
  b : ByteArray
  x : ByteArray
  a : Nat
instance : Inhabited Tk := ⟨⟨0, ByteArray.empty, ByteArray.empty, 0⟩⟩

/-- the tokens of what is left of a text -/
def tokG : Nat → Bool → Nat → List UInt8 → List Tk
  | 0, _, _, _ => []
  | k + 1, f, at_, l =>
    if l.length ≤ (skipF f l).1 then [⟨0, ⟨(l.take (skipF f l).1).toArray⟩, ⟨#[]⟩, at_ + (skipF f l).1⟩]
    else ⟨(tokF (skipF f l).2 (l.drop (skipF f l).1)).1, ⟨(l.take (skipF f l).1).toArray⟩, ⟨((l.drop (skipF f l).1).take (tokF (skipF f l).2 (l.drop (skipF f l).1)).2).toArray⟩, at_ + (skipF f l).1⟩
      :: tokG k false (at_ + (skipF f l).1 + (tokF (skipF f l).2 (l.drop (skipF f l).1)).2) ((l.drop (skipF f l).1).drop (tokF (skipF f l).2 (l.drop (skipF f l).1)).2)
def toks (l : List UInt8) : List Tk := tokG (l.length + 1) true 0 l

/-! ### bounds -/
theorem wordT_le : ∀ l, wordT l ≤ l.length
  | [] => Nat.le_refl _
  | c :: l => by have := wordT_le l; rw [wordT]; split <;> simp only [List.length_cons] <;> omega
theorem wordN_le (l : List UInt8) : wordN l ≤ l.length := by
  cases l with
  | nil => exact Nat.le_refl _
  | cons c l => have := wordT_le l; rw [wordN]; split <;> simp only [List.length_cons] <;> omega
theorem numT_le : ∀ p l, numT p l ≤ l.length
  | _, [] => Nat.le_refl _
  | p, c :: l => by have := numT_le c l; rw [numT]; split <;> simp only [List.length_cons] <;> omega
theorem numN_le (l : List UInt8) : numN l ≤ l.length := by
  cases l with
  | nil => exact Nat.le_refl _
  | cons c l => have := numT_le c l; rw [numN]; split <;> simp only [List.length_cons] <;> omega
theorem quoT_le (q : UInt8) : ∀ tk l, (quoT q tk l).1 ≤ l.length
  | _, [] => Nat.le_refl _
  | tk, c :: l => by
    have := quoT_le q (decide (c.toNat = 92) && !tk) l
    rw [quoT]; split
    · simp
    · split <;> simp only [List.length_cons] <;> omega
theorem quoN_le (l : List UInt8) (h : l ≠ []) : (quoN l).1 ≤ l.length ∧ 1 ≤ (quoN l).1 := by
  cases l with
  | nil => exact absurd rfl h
  | cons c l => have := quoT_le c false l; simp only [quoN, List.length_cons]; omega
theorem starT_le : ∀ l, starT l ≤ l.length
  | [] => Nat.le_refl _
  | [_] => by simp [starT]
  | c :: d :: l => by
    have := starT_le (d :: l)
    rw [starT]; split <;> simp only [List.length_cons] at * <;> omega
theorem comN_le (l : List UInt8) : comN l ≤ l.length := by
  match l with
  | [] => simp [comN]
  | [_] => simp [comN]
  | c :: d :: l =>
    have h1 := upTo_le (c :: d :: l)
    have h2 := starT_le l
    rw [comN]; split
    · exact h1
    · split <;> simp only [List.length_cons] <;> omega
theorem joinN_le (l : List UInt8) : joinN l ≤ l.length := by
  unfold joinN
  split <;> simp
theorem pieceF_le (f : Bool) (l : List UInt8) : (pieceF f l).1 ≤ l.length := by
  cases l with
  | nil => simp [pieceF]
  | cons c l =>
    have h1 := joinN_le (c :: l)
    have h2 := comN_le (c :: l)
    rw [pieceF]
    repeat' split
    all_goals first | exact h1 | exact h2 | (simp only [List.length_cons]; omega)

theorem skipG_le : ∀ k f l, (skipG k f l).1 ≤ l.length
  | 0, _, _ => Nat.zero_le _
  | k + 1, f, l => by
    have h1 := pieceF_le f l
    have h2 := skipG_le k (pieceF f l).2 (l.drop (pieceF f l).1)
    rw [List.length_drop] at h2
    rw [skipG]; split
    · exact Nat.zero_le _
    · dsimp only; omega
theorem skipF_le (f : Bool) (l : List UInt8) : (skipF f l).1 ≤ l.length := skipG_le _ _ _

/-- more rounds than bytes turn nothing -/
theorem skipG_more : ∀ k f l, l.length < k → skipG k f l = skipG (k + 1) f l
  | 0, _, _, h => absurd h (Nat.not_lt_zero _)
  | k + 1, f, l, h => by
    rw [skipG, skipG]
    by_cases g : (pieceF f l).1 = 0
    · rw [if_pos g, if_pos g]
    · rw [if_neg g, if_neg g, skipG_more k _ _ (by rw [List.length_drop]; have := pieceF_le f l; omega)]
theorem skipG_enough (f : Bool) (l : List UInt8) : ∀ k, l.length < k → skipG k f l = skipF f l := by
  intro k hk
  obtain ⟨d, rfl⟩ : ∃ d, k = l.length + 1 + d := ⟨k - (l.length + 1), by omega⟩
  induction d with
  | zero => rfl
  | succ d ih => rw [← Nat.add_assoc, ← skipG_more _ _ _ (by omega)]; exact ih (by omega)
theorem skipF_step (f : Bool) (l : List UInt8) : skipF f l = if (pieceF f l).1 = 0 then (0, (pieceF f l).2) else ((pieceF f l).1 + (skipF (pieceF f l).2 (l.drop (pieceF f l).1)).1, (skipF (pieceF f l).2 (l.drop (pieceF f l).1)).2) := by
  conv => lhs; rw [skipF, skipG]
  by_cases g : (pieceF f l).1 = 0
  · rw [if_pos g, if_pos g]
  · rw [if_neg g, if_neg g, skipG_enough _ _ l.length (by rw [List.length_drop]; have := pieceF_le f l; omega)]

theorem signG_le : ∀ gs l, signG gs l ≤ l.length
  | [], _ => Nat.zero_le _
  | g :: gs, l => by
    rw [signG]; split
    · rename_i h
      exact (List.isPrefixOf_iff_prefix.1 h).length_le
    · exact signG_le gs l
theorem trim13_le (l : List UInt8) : (trim13 l).length ≤ l.length := by
  unfold trim13; split
  · rw [List.length_dropLast]; omega
  · exact Nat.le_refl _
theorem lineGo_le : ∀ f l e, lineGo f l e ≤ l.length
  | 0, l, _ => Nat.le_refl _
  | f + 1, l, e => by
    rw [lineGo]; split
    · exact Nat.le_refl _
    · split
      · exact lineGo_le f l _
      · have h1 := trim13_le (l.take (e + upTo (l.drop e)))
        rw [List.length_take] at h1
        omega

/-- behind a quote without a second one, each later one in the line has none, either -/
theorem quoT_later (q : UInt8) : ∀ tk l j, (quoT q tk l).2 = false → j < (quoT q tk l).1 → l[j]? = some q → (quoT q false (l.drop (j + 1))).2 = false
  | _, [], j, _, h, _ => by simp [quoT] at h
  | tk, c :: l, j, h1, h2, h3 => by
    rw [quoT] at h1 h2
    by_cases g : c.toNat = 10
    · rw [if_pos g] at h2; exact absurd h2 (Nat.not_lt_zero _)
    · rw [if_neg g] at h1 h2
      by_cases g2 : c = q ∧ tk = false
      · rw [if_pos g2] at h1; exact absurd h1 (by simp)
      · rw [if_neg g2] at h1 h2
        cases j with
        | zero =>
          simp only [List.getElem?_cons_zero, Option.some.injEq] at h3
          have htk : tk = true := by cases tk <;> simp_all
          rw [htk] at h1
          simpa using h1
        | succ j =>
          exact quoT_later q _ l j h1 (by omega) (by simpa using h3)

end Go.Proofs.YtjdpkhjoecfhlaaGreatDoor
