/- Plain definitions and lemmas: edits as values of Lean, slices of edits in memory. samePoint: how many edits that have no bytes stand at one place. Plain: edits that are joined. -/
import Derived.Test.YtcndfihcjaoifaaRows
import Derived.WalkKit
import Derived.WalkSpells
import Derived.WalkLawsBesides
import Derived.Lib.Hide
import Derived.RegionTactic
import Derived.Deep.QuietTactic
import Derived.BigQuiet

namespace Go.Proofs.Ytcndfihcjaoifaa
open Go.RowKit

theorem ret_bool {a b : Bool} (h : a = b) : Ending.returned (.bool a) = .returned (.bool b) := by rw [h]
theorem ret_int {k : IntKind} {a b : Int} (h : a = b) : Ending.returned (.int k a) = .returned (.int k b) := by rw [h]
theorem ret_str {a b : ByteArray} (h : a = b) : Ending.returned (.string a) = .returned (.string b) := by rw [h]

/-- an edit -/
structure Ed where
  f : Int
  t : Int
  s : ByteArray
theorem Ed.ext' {a b : Ed} (h1 : a.f = b.f) (h2 : a.t = b.t) (h3 : a.s = b.s) : a = b := by cases a; cases b; simp_all
instance : DecidableEq Ed := fun a b => decidable_of_iff (a.f = b.f ∧ a.t = b.t ∧ a.s = b.s) ⟨fun h => Ed.ext' h.1 h.2.1 h.2.2, fun h => by subst h; exact ⟨rfl, rfl, rfl⟩⟩
instance : Inhabited Ed := ⟨⟨0, 0, ByteArray.empty⟩⟩

def Ed.cells (e : Ed) : List Value := [.int .i64 e.f, .int .i64 e.t, .string e.s]

/-- the cells from address A on, all below block B, hold xs -/
def Rd (w : World) (B : Nat) (A : Option Addr) (xs : List Value) : Prop :=
  0 < xs.length → ∃ b off, A = some ⟨b, off, none⟩ ∧ b < B ∧ ∀ (j : Nat) (u : Value), xs[j]? = some u → w.cell? ⟨b, off + j, none⟩ = some u

theorem Rd.nil {w : World} {B : Nat} {A : Option Addr} : Rd w B A [] := fun h => by simp at h

theorem Rd.keep {w w' : World} {B : Nat} {A : Option Addr} {xs : List Value} (h : Rd w B A xs) (hk : ∀ b o, b < B → w'.cell? ⟨b, o, none⟩ = w.cell? ⟨b, o, none⟩) : Rd w' B A xs := fun hl => by
  obtain ⟨b, off, e, hB, hc⟩ := h hl
  exact ⟨b, off, e, hB, fun j u hu => (hk _ _ hB).trans (hc j u hu)⟩

theorem Rd.below {w w' : World} {B : Nat} {A : Option Addr} {xs : List Value} (h : Rd w B A xs) (hb : Below B w w') : Rd w' B A xs :=
  h.keep fun b o hB => hb.cell (p := ⟨b, o, none⟩) hB

theorem Rd.more {w : World} {B B' : Nat} {A : Option Addr} {xs : List Value} (h : Rd w B A xs) (hB : B ≤ B') : Rd w B' A xs := fun hl => by
  obtain ⟨b, off, e, hb, hc⟩ := h hl
  exact ⟨b, off, e, by omega, hc⟩

theorem Rd.of_own {w : World} {base k n c : Nat} {e : TypeId} {A : Option Addr} {xs : List Value} (h : w.ownsRow base e k (.slice A n c) n xs) : Rd w w.heap.size A xs := fun hl => by
  have hn : 0 < n := by
    rcases Nat.eq_zero_or_pos n with h0 | h0
    · subst h0; have := h.1; simp at this; subst this; simp at hl
    · exact h0
  rcases h.2 with ⟨_, h0⟩ | ⟨g, cap, cur, hv, _, hg, hr⟩
  · omega
  · injection hv with hA
    subst hA
    refine ⟨g, 0, rfl, (Array.getElem?_eq_some_iff.1 hg).1, fun j u hu => ?_⟩
    have := h.cells (g := g) rfl j u hu
    rwa [Addr.add_lit] at this

theorem Rd.at_add {w : World} {B : Nat} {ad : Addr} {xs : List Value} (h : Rd w B (some ad) xs) : ∀ (j : Nat) (u : Value), xs[j]? = some u → w.cell? (ad.add j) = some u := fun j u hu => by
  obtain ⟨b, off, e, _, hc⟩ := h (by have := (List.getElem?_eq_some_iff.1 hu).1; omega)
  injection e with e
  subst e
  rw [Addr.add_lit]
  exact hc j u hu

/-- the cells of edits -/
def cellsE (l : List Ed) : List Value := l.flatMap Ed.cells

theorem cellsE_length (l : List Ed) : (cellsE l).length = l.length * 3 := by
  induction l with
  | nil => rfl
  | cons x l ih => simp [cellsE, Ed.cells] at ih ⊢; omega

theorem cellsE_get : ∀ (l : List Ed) (i : Nat) (h : i < l.length), (cellsE l)[i * 3]? = some (.int .i64 l[i].f) ∧ (cellsE l)[i * 3 + 1]? = some (.int .i64 l[i].t) ∧ (cellsE l)[i * 3 + 2]? = some (.string l[i].s)
  | [], _, h => by simp at h
  | x :: l, 0, _ => by simp [cellsE, Ed.cells]
  | x :: l, i + 1, h => by
    have ih := cellsE_get l i (by simpa using h)
    have e : ∀ j, (cellsE (x :: l))[j + 3]? = (cellsE l)[j]? := fun j => by
      show (Ed.cells x ++ cellsE l)[j + 3]? = _
      rw [List.getElem?_append_right (by simp [Ed.cells])]
      simp [Ed.cells]
    rw [show (i + 1) * 3 = i * 3 + 3 by omega, show i * 3 + 3 + 1 = i * 3 + 1 + 3 by omega, show i * 3 + 3 + 2 = i * 3 + 2 + 3 by omega, e, e, e]
    exact ih

theorem cellsE_mem {l : List Ed} {j : Nat} {u : Value} (h : (cellsE l)[j]? = some u) : ∃ i, ∃ hi : i < l.length, (j = i * 3 ∧ u = .int .i64 l[i].f) ∨ (j = i * 3 + 1 ∧ u = .int .i64 l[i].t) ∨ (j = i * 3 + 2 ∧ u = .string l[i].s) := by
  have hj : j < l.length * 3 := by rw [← cellsE_length]; exact (List.getElem?_eq_some_iff.1 h).1
  refine ⟨j / 3, by omega, ?_⟩
  obtain ⟨h0, h1, h2⟩ := cellsE_get l (j / 3) (by omega)
  rcases (by omega : j = j / 3 * 3 ∨ j = j / 3 * 3 + 1 ∨ j = j / 3 * 3 + 2) with e | e | e
  · exact .inl ⟨e, by rw [e, h0] at h; exact (Option.some.inj h).symm⟩
  · exact .inr (.inl ⟨e, by rw [e, h1] at h; exact (Option.some.inj h).symm⟩)
  · exact .inr (.inr ⟨e, by rw [e, h2] at h; exact (Option.some.inj h).symm⟩)

theorem cellsE_one {l : List Ed} {u : Value} (h : u ∈ cellsE l) : u.oneCell' = true := by
  obtain ⟨x, _, hx⟩ := List.mem_flatMap.1 h
  simp [Ed.cells] at hx
  rcases hx with rfl | rfl | rfl <;> rfl

theorem cellsE_append (l r : List Ed) : cellsE (l ++ r) = cellsE l ++ cellsE r := by simp [cellsE]

/-- the slice value with address A reads as the edits l, all below block B -/
def ESl (w : World) (B : Nat) (A : Option Addr) (l : List Ed) : Prop := Rd w B A (cellsE l)

theorem ESl.below {w w' : World} {B : Nat} {A : Option Addr} {l : List Ed} (h : ESl w B A l) (hb : Below B w w') : ESl w' B A l := Rd.below h hb
theorem ESl.more {w : World} {B B' : Nat} {A : Option Addr} {l : List Ed} (h : ESl w B A l) (hB : B ≤ B') : ESl w B' A l := Rd.more h hB

theorem ESl.at_ {w : World} {B : Nat} {A : Option Addr} {l : List Ed} (h : ESl w B A l) (i : Nat) (hi : i < l.length) :
    ∃ b off, A = some ⟨b, off, none⟩ ∧ b < B ∧ w.cell? ⟨b, off + i * 3, none⟩ = some (.int .i64 l[i].f) ∧ w.cell? ⟨b, off + i * 3 + 1, none⟩ = some (.int .i64 l[i].t) ∧ w.cell? ⟨b, off + i * 3 + 2, none⟩ = some (.string l[i].s) := by
  obtain ⟨b, off, e, hB, hc⟩ := h (by rw [cellsE_length]; omega)
  obtain ⟨h0, h1, h2⟩ := cellsE_get l i hi
  exact ⟨b, off, e, hB, hc _ _ h0, by have := hc _ _ h1; rwa [← Nat.add_assoc] at this, by have := hc _ _ h2; rwa [← Nat.add_assoc] at this⟩

theorem ESl.mk {w : World} {B b off : Nat} {l : List Ed} (hB : b < B) (h : ∀ (i : Nat) (hi : i < l.length), w.cell? ⟨b, off + i * 3, none⟩ = some (.int .i64 l[i].f) ∧ w.cell? ⟨b, off + i * 3 + 1, none⟩ = some (.int .i64 l[i].t) ∧ w.cell? ⟨b, off + i * 3 + 2, none⟩ = some (.string l[i].s)) : ESl w B (some ⟨b, off, none⟩) l := fun _ => by
  refine ⟨b, off, rfl, hB, fun j u hu => ?_⟩
  obtain ⟨i, hi, ⟨rfl, rfl⟩ | ⟨rfl, rfl⟩ | ⟨rfl, rfl⟩⟩ := cellsE_mem hu
  · exact (h i hi).1
  · exact (h i hi).2.1
  · exact (h i hi).2.2

/-- whether edits in order clash -/
def clashGo : List Ed → Int → Int → Bool
  | [], _, _ => false
  | x :: l, e, p => if x.f < e ∨ (x.f = x.t ∧ x.f = p) then true else if x.f = x.t then clashGo l e x.f else clashGo l x.t p

end Go.Proofs.Ytcndfihcjaoifaa

namespace Go.Proofs.Ytcndfihcjaoifaa
open Go.RowKit

end Go.Proofs.Ytcndfihcjaoifaa

namespace Go.Proofs.Ytcndfihcjaoifaa
open Go.RowKit

theorem clash_step (l : List Ed) (k : Nat) (h : k < l.length) (e p : Int) :
    clashGo (l.drop k) e p = if l[k].f < e ∨ (l[k].f = l[k].t ∧ l[k].f = p) then true else if l[k].f = l[k].t then clashGo (l.drop (k + 1)) e l[k].f else clashGo (l.drop (k + 1)) l[k].t p := by
  rw [List.drop_eq_getElem_cons h]; rfl

theorem clash_end (l : List Ed) (k : Nat) (h : l.length ≤ k) (e p : Int) : clashGo (l.drop k) e p = false := by
  rw [List.drop_eq_nil_of_le h]; rfl

end Go.Proofs.Ytcndfihcjaoifaa

namespace Go.Proofs.Ytcndfihcjaoifaa
open Go.RowKit

end Go.Proofs.Ytcndfihcjaoifaa

namespace Go.Proofs.Ytcndfihcjaoifaa
open Go.RowKit Go.Maps

/-- two edits that have no bytes and stand at one place -/
def sameP (x y : Ed) : Bool := decide (x.f = x.t) && (decide (y.f = x.f) && decide (y.t = x.t))

theorem sameP_iff {x y : Ed} : sameP x y = true ↔ x.f = x.t ∧ y.f = x.f ∧ y.t = x.t := by simp [sameP]

theorem below_drawn {B : Nat} {a w : World} (h : Below B a w) (n : Nat) : Below B a (w.drewN n) := ⟨h.os, h.tape, h.output, h.size, h.block⟩

theorem takeWhile_len (p : Ed → Bool) : ∀ (l : List Ed) (k : Nat), k ≤ l.length → (∀ (j : Nat) (h : j < l.length), j < k → p l[j] = true) → (∀ h : k < l.length, p l[k] = false) → (l.takeWhile p).length = k
  | [], k, h, _, _ => by simp at h; subst h; rfl
  | x :: l, 0, _, _, h => by
    have := h (by simp)
    simp only [List.getElem_cons_zero] at this
    rw [List.takeWhile_cons, if_neg (by rw [this]; simp)]; rfl
  | x :: l, k + 1, h1, h2, h3 => by
    have h0 := h2 0 (by simp) (by omega)
    simp only [List.getElem_cons_zero] at h0
    rw [List.takeWhile_cons, if_pos h0, List.length_cons, takeWhile_len p l k (by simpa using h1) (fun j hj hk => by
      have := h2 (j + 1) (by simpa using hj) (by omega)
      simpa using this) (fun h => by have := h3 (by simpa using h); simpa using this)]

theorem ESl.take {w : World} {B : Nat} {A : Option Addr} {l : List Ed} (h : ESl w B A l) (n : Nat) : ESl w B A (l.take n) := fun hl => by
  obtain ⟨b, off, e, hB, hc⟩ := h (by rw [cellsE_length] at *; rw [List.length_take] at hl; omega)
  refine ⟨b, off, e, hB, fun j u hu => hc j u ?_⟩
  have e2 : cellsE l = cellsE (l.take n) ++ cellsE (l.drop n) := by rw [← cellsE_append, List.take_append_drop]
  rw [e2, List.getElem?_append_left (List.getElem?_eq_some_iff.1 hu).1]
  exact hu

theorem ESl.drop {w : World} {B b off : Nat} {l : List Ed} (h : ESl w B (some ⟨b, off, none⟩) l) (n : Nat) : ESl w B (some ⟨b, off + n * 3, none⟩) (l.drop n) := fun hl => by
  have hn : n < l.length := by rw [cellsE_length, List.length_drop] at hl; omega
  obtain ⟨b', off', e, hB, hc⟩ := h (by rw [cellsE_length]; omega)
  injection e with e
  injection e with e1 e2
  subst e1 e2
  refine ⟨b, off + n * 3, rfl, hB, fun j u hu => ?_⟩
  have := hc (n * 3 + j) u (by
    have e2 : cellsE l = cellsE (l.take n) ++ cellsE (l.drop n) := by rw [← cellsE_append, List.take_append_drop]
    have e3 : (cellsE (l.take n)).length = n * 3 := by rw [cellsE_length, List.length_take]; omega
    rw [e2, List.getElem?_append_right (by omega), e3, Nat.add_sub_cancel_left]
    exact hu)
  rwa [← Nat.add_assoc] at this

theorem ESl.any {w : World} {B : Nat} {A : Option Addr} {l : List Ed} (h : l ≠ [] → ESl w B A l) : ESl w B A l := by
  by_cases e : l = []
  · subst e; intro hl; simp [cellsE] at hl
  · exact h e

end Go.Proofs.Ytcndfihcjaoifaa

namespace Go.Proofs.Ytcndfihcjaoifaa
open Go.RowKit

def textsL (l : List Ed) : List UInt8 := l.flatMap fun x => x.s.data.toList

theorem textsL_cons (x : Ed) (l : List Ed) : textsL (x :: l) = x.s.data.toList ++ textsL l := by simp [textsL]
theorem textsL_append (a b : List Ed) : textsL (a ++ b) = textsL a ++ textsL b := by simp [textsL]

/-- edits that have no bytes and stand at one place, one behind the other, made one -/
def joinF : List Ed → List Ed
  | [] => []
  | x :: l => ⟨x.f, x.t, ⟨(textsL (x :: l.takeWhile (sameP x))).toArray⟩⟩ :: joinF (l.dropWhile (sameP x))
termination_by l => l.length
decreasing_by
  have := (List.dropWhile_sublist (sameP x) (l := l)).length_le
  simp; omega

theorem joinF_cons (x : Ed) (l : List Ed) : joinF (x :: l) = ⟨x.f, x.t, ⟨(textsL (x :: l.takeWhile (sameP x))).toArray⟩⟩ :: joinF (l.dropWhile (sameP x)) := by rw [joinF]

theorem joinF_nil : joinF [] = [] := by rw [joinF]

theorem drop_le (x : Ed) (l : List Ed) : (l.dropWhile (sameP x)).length ≤ l.length := (List.dropWhile_sublist (sameP x) (l := l)).length_le

theorem joinF_length : ∀ (n : Nat) (l : List Ed), l.length ≤ n → (joinF l).length ≤ l.length
  | _, [], _ => by rw [joinF_nil]; exact Nat.le_refl _
  | 0, x :: l, h => by simp at h
  | n + 1, x :: l, h => by
    rw [joinF_cons]
    have h1 := drop_le x l
    simp only [List.length_cons] at h ⊢
    have := joinF_length n (l.dropWhile (sameP x)) (by omega)
    omega

theorem mem_takeWhile {x y : Ed} : ∀ {l : List Ed}, y ∈ l.takeWhile (sameP x) → sameP x y = true
  | [], h => by simp at h
  | z :: l, h => by
    rw [List.takeWhile_cons] at h
    by_cases g : sameP x z = true
    · rw [if_pos g, List.mem_cons] at h
      rcases h with rfl | h
      · exact g
      · exact mem_takeWhile h
    · rw [if_neg g] at h; simp at h

end Go.Proofs.Ytcndfihcjaoifaa
