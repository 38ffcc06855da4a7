/- Plain: an edit that sinks to its place; rows of edits that are owned. -/
import Derived.Test.YtgpmodbndngcoaaDoorCompact
namespace Go.Proofs.YtgpmodbndngcoaaDoor
open Go.RowKit Go.Sort Go.Maps

/-- x stands at place j, between what was there -/
def sunk (o : List Ed) (x : Ed) (j : Nat) : List Ed := o.take j ++ x :: o.drop j

theorem sunk_length (o : List Ed) (x : Ed) (j : Nat) : (sunk o x j).length = o.length + 1 := by
  unfold sunk
  have : o.length = (o.take j).length + (o.drop j).length := by rw [← List.length_append, List.take_append_drop]
  rw [List.length_append, List.length_cons, this]; omega

theorem sunk_end (o : List Ed) (x : Ed) : sunk o x o.length = o ++ [x] := by
  unfold sunk; rw [List.take_length, List.drop_length]

theorem sunk_at (o : List Ed) (x : Ed) (j : Nat) (h : j ≤ o.length) : (sunk o x j)[j]'(by rw [sunk_length]; omega) = x := by
  unfold sunk
  rw [List.getElem_append_right (by rw [List.length_take]; omega)]
  simp [Nat.min_eq_left h]

theorem sunk_before (o : List Ed) (x : Ed) (j : Nat) (h0 : 0 < j) (h : j ≤ o.length) : (sunk o x j)[j - 1]'(by rw [sunk_length]; omega) = o[j - 1]'(by omega) := by
  unfold sunk
  rw [List.getElem_append_left (by rw [List.length_take]; omega), List.getElem_take]

theorem sunk_swap (o : List Ed) (x : Ed) (j : Nat) (h0 : 0 < j) (h : j ≤ o.length) : ((sunk o x j).set j (o[j - 1]'(by omega))).set (j - 1) x = sunk o x (j - 1) := by
  obtain ⟨i, rfl⟩ : ∃ i, j = i + 1 := ⟨j - 1, by omega⟩
  simp only [Nat.add_sub_cancel]
  have e1 : o.take (i + 1) = o.take i ++ [o[i]] := by rw [List.take_succ_eq_append_getElem (by omega)]
  have e2 : o.drop i = o[i] :: o.drop (i + 1) := List.drop_eq_getElem_cons (by omega)
  have hl : (o.take i).length = i := by rw [List.length_take]; omega
  unfold sunk
  rw [e1, e2, List.append_assoc, List.set_append_right _ _ (by omega), hl, show i + 1 - i = 1 by omega]
  simp only [List.singleton_append, List.set_cons_succ, List.set_cons_zero]
  rw [List.set_append_right _ _ (by omega), hl, Nat.sub_self, List.set_cons_zero]

theorem sunk_mem (o : List Ed) (x y : Ed) (j : Nat) : y ∈ sunk o x j ↔ y = x ∨ y ∈ o := by
  unfold sunk
  have : y ∈ o ↔ y ∈ o.take j ∨ y ∈ o.drop j := by rw [← List.mem_append, List.take_append_drop]
  rw [this, List.mem_append, List.mem_cons]
  constructor
  · rintro (h | h | h)
    · exact .inr (.inl h)
    · exact .inl h
    · exact .inr (.inr h)
  · rintro (h | h | h)
    · exact .inr (.inl h)
    · exact .inl h
    · exact .inr (.inr h)

theorem sunk_sorted (o : List Ed) (x : Ed) (j : Nat) (ho : o.Pairwise ltE) (h1 : ∀ y ∈ o.take j, ltE y x) (h2 : ∀ y ∈ o.drop j, ltE x y) : (sunk o x j).Pairwise ltE := by
  unfold sunk
  rw [List.pairwise_append, List.pairwise_cons]
  refine ⟨ho.sublist (List.take_sublist _ _), ⟨h2, ho.sublist (List.drop_sublist _ _)⟩, fun a ha b hb => ?_⟩
  rcases List.mem_cons.1 hb with rfl | hb
  · exact h1 a ha
  · exact ltE_trans (h1 a ha) (h2 b hb)

/-- what stands ahead of a place is less, if the last of it is not greater and not the same -/
theorem take_less (o : List Ed) (x : Ed) (j : Nat) (h0 : 0 < j) (h : j ≤ o.length) (ho : o.Pairwise ltE) (hx : x ∉ o) (hn : ¬ cmpE x (o[j - 1]'(by omega)) < 0) : ∀ y ∈ o.take j, ltE y x := fun y hy => by
  have hm : o[j - 1] ∈ o := List.getElem_mem _
  have hlast : ltE (o[j - 1]'(by omega)) x := by
    rcases ltE_total (o[j - 1]'(by omega)) x with g | g | g
    · exact g
    · exact absurd (g ▸ hm) hx
    · exact absurd (cmpE_neg.2 g) hn
  obtain ⟨i, hi, rfl⟩ := List.getElem_of_mem hy
  rw [List.length_take] at hi
  rw [List.getElem_take]
  by_cases e : i = j - 1
  · subst e; exact hlast
  · exact ltE_trans (List.pairwise_iff_getElem.1 ho i (j - 1) (by omega) (by omega) (by omega)) hlast

/-- .. of what stands behind a place -/
theorem drop_more' (o : List Ed) (x : Ed) (j : Nat) (h0 : 0 < j) (h : j ≤ o.length) (hx : cmpE x (o[j - 1]'(by omega)) < 0) (hd : ∀ y ∈ o.drop j, ltE x y) : ∀ y ∈ o.drop (j - 1), ltE x y := fun y hy => by
  rw [List.drop_eq_getElem_cons (by omega : j - 1 < o.length), List.mem_cons, show j - 1 + 1 = j by omega] at hy
  rcases hy with rfl | hy
  · exact cmpE_neg.1 hx
  · exact hd y hy

theorem ord_same (l : List Ed) (k : Nat) (h : k < l.length) (hm : l[k] ∈ ordF (l.take k)) : ordF (l.take k) = ordF (l.take (k + 1)) :=
  ordF_of_sorted (sorted_ordF _) fun y => by
    rw [mem_ordF, List.take_succ_eq_append_getElem h, List.mem_append, List.mem_singleton]
    constructor
    · exact .inl
    · rintro (g | rfl)
      · exact g
      · exact (mem_ordF _ _).1 hm

theorem ord_sunk (l : List Ed) (k j : Nat) (h : k < l.length) (hs : (sunk (ordF (l.take k)) l[k] j).Pairwise ltE) : sunk (ordF (l.take k)) l[k] j = ordF (l.take (k + 1)) :=
  ordF_of_sorted hs fun y => by
    rw [sunk_mem, mem_ordF, List.take_succ_eq_append_getElem h, List.mem_append, List.mem_singleton]
    constructor
    · rintro (g | g)
      · exact .inr g
      · exact .inl g
    · rintro (g | g)
      · exact .inr g
      · exact .inl g

/-- a block of edits, as large as said -/
def SZ (w : World) (g n : Nat) : Prop := ∃ cur : Array Value, w.heap[g]? = some (.cells cur 46 (0, 0)) ∧ cur.size = n

theorem SZ.store {w : World} {g n : Nat} (h : SZ w g n) (i : Nat) (vs : List Value) : SZ (w.setCells g i vs) g n := by
  obtain ⟨cur, h1, h2⟩ := h
  obtain ⟨cur', a, b, _⟩ := blk_setCells vs w i cur h1
  exact ⟨cur', a, by rw [b, h2]⟩

theorem SZ.below {w w' : World} {B g n : Nat} (h : SZ w g n) (hb : Below B w w') (hg : g < B) : SZ w' g n := by
  obtain ⟨cur, h1, h2⟩ := h
  exact ⟨cur, (hb.block g hg).trans h1, h2⟩

theorem EB.below2 {w w' : World} {B g : Nat} {l : List Ed} (h : EB w g l) (hb : Below B w w') (hg : g < B) : EB w' g l := by
  obtain ⟨cur, h1, h2, h3⟩ := h
  exact ⟨cur, (hb.block g hg).trans h1, h2, h3⟩

theorem own_of_eb {w : World} {base g cap : Nat} {l : List Ed} (h : EB w g l) (hs : SZ w g (cap * 3)) (hb : base ≤ g) (hl : l.length ≤ cap) (hc : cap ≤ maxLen) :
    w.ownsRow base 46 3 (.slice (some ⟨g, 0, none⟩) l.length cap) l.length (cellsE l) := by
  obtain ⟨cur, h1, h2, h3⟩ := h
  obtain ⟨cur', g1, g2⟩ := hs
  rw [h1] at g1
  injection g1 with g1
  injection g1 with g1
  subst g1
  exact ⟨cellsE_length l, .inr ⟨g, cap, cur, rfl, hb, h1, hl, hc, g2, h3⟩⟩

theorem sz_of_own {w : World} {base g n cap : Nat} {xs : List Value} (h : w.ownsRow base 46 3 (.slice (some ⟨g, 0, none⟩) n cap) n xs) : SZ w g (cap * 3) := by
  rcases h.2 with ⟨e, _⟩ | ⟨g', cap', cur, e, _, hg, _, _, hs, _⟩
  · cases e
  · injection e with e1 e2 e3
    injection e1 with e1
    injection e1 with e1
    subst e1 e3
    exact ⟨cur, hg, hs⟩

end Go.Proofs.YtgpmodbndngcoaaDoor
