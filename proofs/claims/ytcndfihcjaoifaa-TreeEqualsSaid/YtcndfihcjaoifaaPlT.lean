/- Plain: trees without addresses; without parentheses and places; when two trees are alike. -/
import Derived.Test.YtcndfihcjaoifaaAlk

namespace Go.Proofs.Ytcndfihcjaoifaa
open Go.RowKit

/-- a tree without addresses -/
inductive Tr where
  | mk (op : Int) (s : ByteArray) (n f t : Int) (l : List Tr)

def Tr.op : Tr → Int | .mk op _ _ _ _ _ => op
def Tr.s : Tr → ByteArray | .mk _ s _ _ _ _ => s
def Tr.n : Tr → Int | .mk _ _ n _ _ _ => n
def Tr.l : Tr → List Tr | .mk _ _ _ _ _ l => l

mutual
/-- the tree that a node in memory is -/
def Nd.er : Nd → Tr
  | .mk op s n f t _ _ l => .mk op s n f t (erL l)
def erL : List Nd → List Tr
  | [] => []
  | x :: l => x.er :: erL l
end

theorem erL_map : ∀ l : List Nd, erL l = l.map Nd.er
  | [] => rfl
  | x :: l => by rw [erL, erL_map l]; rfl

theorem Nd.er_mk (op : Int) (s : ByteArray) (n f t : Int) (A : Option Addr) (c : Nat) (l : List Nd) : (Nd.mk op s n f t A c l).er = .mk op s n f t (l.map Nd.er) := by rw [Nd.er, erL_map]

def Tr.bare : Tr → Tr
  | .mk op s n f t l => if h : op = 54 ∧ l.length = 1 then (l[0]'(by omega)).bare else .mk op s n f t l
termination_by x => SizeOf.sizeOf x
decreasing_by
  have := List.sizeOf_lt_of_mem (List.getElem_mem (l := l) (n := 0) (by omega))
  simp only [Tr.mk.sizeOf_spec]
  omega

theorem Nd.er_bare (x : Nd) : x.bare.er = x.er.bare := by
  match x with
  | .mk op s n f t A c l =>
    rw [Nd.bare, Nd.er_mk, Tr.bare]
    by_cases hh : op = 54 ∧ l.length = 1
    · have := List.sizeOf_lt_of_mem (List.getElem_mem (l := l) (n := 0) (by omega))
      rw [dif_pos hh, dif_pos (by simpa using hh), Nd.er_bare]
      simp
    · rw [dif_neg hh, dif_neg (by simpa using hh), Nd.er_mk]
termination_by SizeOf.sizeOf x
decreasing_by
  simp only [Nd.mk.sizeOf_spec]
  omega

theorem Tr.bare_bare (x : Tr) : ¬ (x.bare.op = 54 ∧ x.bare.l.length = 1) := by
  match x with
  | .mk op s n f t l =>
    rw [Tr.bare]
    by_cases hh : op = 54 ∧ l.length = 1
    · have := List.sizeOf_lt_of_mem (List.getElem_mem (l := l) (n := 0) (by omega))
      rw [dif_pos hh]
      exact Tr.bare_bare _
    · rw [dif_neg hh]
      exact hh
termination_by SizeOf.sizeOf x
decreasing_by
  simp only [Tr.mk.sizeOf_spec]
  omega

theorem Tr.bare_of (x : Tr) (h : ¬ (x.op = 54 ∧ x.l.length = 1)) : x.bare = x := by
  cases x with
  | mk op s n f t l =>
  have h' : ¬ (op = 54 ∧ l.length = 1) := h
  rw [Tr.bare, dif_neg h']

/-- a tree without parentheses and places, as far as k levels down -/
def plainT : Nat → Tr → Tr
  | 0, _ => .mk 0 ⟨#[]⟩ 0 0 0 []
  | k + 1, x => .mk x.bare.op x.bare.s x.bare.n 0 0 (x.bare.l.map (plainT k))

theorem plainT_plain : ∀ (k : Nat) (x : Tr), plainT k (plainT k x) = plainT k x
  | 0, _ => rfl
  | k + 1, x => by
    have e : (plainT (k + 1) x).bare = plainT (k + 1) x := Tr.bare_of _ (by
      show ¬ (x.bare.op = 54 ∧ (x.bare.l.map (plainT k)).length = 1)
      rw [List.length_map]
      exact Tr.bare_bare x)
    show Tr.mk (plainT (k + 1) x).bare.op (plainT (k + 1) x).bare.s (plainT (k + 1) x).bare.n 0 0 ((plainT (k + 1) x).bare.l.map (plainT k)) = _
    rw [e]
    show Tr.mk x.bare.op x.bare.s x.bare.n 0 0 ((x.bare.l.map (plainT k)).map (plainT k)) = Tr.mk x.bare.op x.bare.s x.bare.n 0 0 (x.bare.l.map (plainT k))
    rw [List.map_map]
    congr 1
    exact List.map_congr_left fun y _ => plainT_plain k y

open Classical in
/-- whether two nodes are alike, as far as k levels down -/
noncomputable def alk (k : Nat) (a b : Nd) : Bool := decide (plainT k a.er = plainT k b.er)

theorem alk_iff {k : Nat} {a b : Nd} : alk k a b = true ↔ plainT k a.er = plainT k b.er := by simp [alk]

theorem eqBy_alk {k : Nat} : ∀ {l r : List Nd}, eqBy (alk k) l r = true ↔ (l.map Nd.er).map (plainT k) = (r.map Nd.er).map (plainT k)
  | [], [] => by simp [eqBy]
  | [], _ :: _ => by simp [eqBy]
  | _ :: _, [] => by simp [eqBy]
  | x :: l, y :: r => by
    rw [eqBy, Bool.and_eq_true, alk_iff, eqBy_alk]
    simp

/-- alike: the labels of both bare nodes are the same, and so are their parts -/
theorem alk_step (k : Nat) (a b : Nd) : alk (k + 1) a b = (decide (a.bare.op = b.bare.op ∧ a.bare.s = b.bare.s ∧ a.bare.n = b.bare.n) && eqBy (alk k) a.bare.l b.bare.l) := by
  rw [Bool.eq_iff_iff, alk_iff, Bool.and_eq_true, decide_eq_true_iff, eqBy_alk]
  simp only [plainT, ← Nd.er_bare]
  generalize a.bare = x
  generalize b.bare = y
  obtain ⟨op, s, n, f, t, A, c, l⟩ := x
  obtain ⟨op', s', n', f', t', A', c', l'⟩ := y
  simp only [Nd.er_mk, Tr.op, Tr.s, Tr.n, Tr.l, Nd.op, Nd.s, Nd.n, Nd.l, Tr.mk.injEq]
  constructor
  · rintro ⟨h1, h2, h3, _, _, h4⟩; exact ⟨⟨h1, h2, h3⟩, h4⟩
  · rintro ⟨⟨h1, h2, h3⟩, h4⟩; exact ⟨h1, h2, h3, trivial, trivial, h4⟩

end Go.Proofs.Ytcndfihcjaoifaa
