/- A block that holds edits: reading, writing, sorting. -/
import Derived.Test.YtgpmodbndngcoaaDoorOrd
import Derived.Test.YtgpmodbndngcoaaDoorClone
import Derived.Test.YtgpmodbndngcoaaDoorShelfS
namespace Go.Proofs.YtgpmodbndngcoaaDoor
open Go.RowKit Go.Sort

/-- block g holds the edits l at its head, and is not frozen -/
def EB (w : World) (g : Nat) (l : List Ed) : Prop :=
  ∃ cur : Array Value, w.heap[g]? = some (.cells cur 46 (0, 0)) ∧ l.length * 3 ≤ cur.size ∧ cur.toList.take (l.length * 3) = cellsE l

theorem EB.lt {w : World} {g : Nat} {l : List Ed} (h : EB w g l) : g < w.heap.size := by
  obtain ⟨cur, hg, _⟩ := h
  exact (Array.getElem?_eq_some_iff.1 hg).1

theorem EB.cells {w : World} {g : Nat} {l : List Ed} (h : EB w g l) (j : Nat) (u : Value) (hj : (cellsE l)[j]? = some u) : w.cell? ⟨g, j, none⟩ = some u := by
  obtain ⟨cur, hg, hs, ht⟩ := h
  rw [cell_of_row w g j cur _ (0, 0) hg]
  rw [← ht, List.getElem?_take] at hj
  split at hj
  · simpa using hj
  · cases hj

theorem EB.frozen {w : World} {g : Nat} {l : List Ed} (h : EB w g l) (o : Nat) : w.frozen? ⟨g, o, none⟩ = false := by
  obtain ⟨cur, hg, _⟩ := h
  simp [World.frozen?, hg]

theorem EB.at_ {w : World} {g : Nat} {l : List Ed} (h : EB w g l) (i : Nat) (hi : i < l.length) :
    w.cell? ⟨g, i * 3, none⟩ = some (.int .i64 l[i].f) ∧ w.cell? ⟨g, i * 3 + 1, none⟩ = some (.int .i64 l[i].t) ∧ w.cell? ⟨g, i * 3 + 2, none⟩ = some (.string l[i].s) := by
  obtain ⟨h0, h1, h2⟩ := cellsE_get l i hi
  exact ⟨h.cells _ _ h0, h.cells _ _ h1, h.cells _ _ h2⟩

theorem EB.esl {w : World} {g : Nat} {l : List Ed} (h : EB w g l) : ESl w w.heap.size (some ⟨g, 0, none⟩) l :=
  fun _ => ⟨g, 0, rfl, h.lt, fun j u hu => by rw [Nat.zero_add]; exact h.cells j u hu⟩

theorem EB.of_own {w : World} {base g c : Nat} {l : List Ed} (h : w.ownsRow base 46 3 (.slice (some ⟨g, 0, none⟩) l.length c) l.length (cellsE l)) : EB w g l ∧ base ≤ g ∧ l.length ≤ c ∧ c ≤ maxLen := by
  rcases h.2 with ⟨e, _⟩ | ⟨g', cap, cur, e, hb, hg, hn, hc, hs, ht⟩
  · cases e
  · injection e with e1 e2 e3
    injection e1 with e1
    injection e1 with e1
    subst e1 e3
    exact ⟨⟨cur, hg, by rw [hs]; exact Nat.mul_le_mul_right _ hn, ht⟩, hb, hn, hc⟩

theorem flat_get (d : Array Ed) (j : Nat) (hj : j < d.size * 3) : (cellsE d.toList)[j]? = some ((Ed.cells d[j / 3]!)[j % 3]!) := by
  have hi : j / 3 < d.size := by omega
  obtain ⟨h0, h1, h2⟩ := cellsE_get d.toList (j / 3) (by simpa using hi)
  rw [getElem!_pos d (j / 3) hi]
  simp only [Array.getElem_toList] at h0 h1 h2
  generalize d[j / 3] = x at *
  rcases (by omega : j % 3 = 0 ∨ j % 3 = 1 ∨ j % 3 = 2) with e | e | e
  · rw [show j / 3 * 3 = j by omega] at h0; rw [e, h0]; rfl
  · rw [show j / 3 * 3 + 1 = j by omega] at h1; rw [e, h1]; rfl
  · rw [show j / 3 * 3 + 2 = j by omega] at h2; rw [e, h2]; rfl

theorem EB.holds {w : World} {g : Nat} {l : List Ed} (h : EB w g l) : HoldsK Ed.cells 3 w g 0 l.toArray := fun j hj => by
  rw [size_flatK] at hj
  refine ⟨?_, h.frozen _⟩
  rw [Nat.zero_add, get_flatK _ _ _ _ hj]
  exact h.cells j _ (flat_get l.toArray j hj)

theorem EB.sorted {w : World} {g n : Nat} {l : List Ed} {os : Array Obj} {d : Array Ed} (h : EB w g l) (hd : d.size = l.length) : EB (sortWorldK Ed.cells 3 w g 0 n d os) g d.toList ∧ ∀ B, B ≤ g → Below B w (sortWorldK Ed.cells 3 w g 0 n d os) := by
  obtain ⟨cur, hg, hs, ht⟩ := h
  have hlt : g < w.heap.size := (Array.getElem?_eq_some_iff.1 hg).1
  have hheap : (sortWorldK Ed.cells 3 w g 0 n d os).heap = w.heap.modify g (onCells (putCells id 0 (flatK Ed.cells 3 d))) ++ os := rfl
  constructor
  · refine ⟨putCells id 0 (flatK Ed.cells 3 d) cur, ?_, ?_, ?_⟩
    · rw [hheap, Array.getElem?_append_left (by simpa using hlt), Array.getElem?_modify, if_pos rfl, hg]; rfl
    · simp [putCells, hd]; omega
    · apply List.ext_getElem?
      intro j
      rw [List.getElem?_take]
      by_cases hj : j < d.toList.length * 3
      · rw [if_pos hj]
        have hj' : j < d.size * 3 := by simpa using hj
        rw [flat_get d j hj']
        have hc : j < cur.size := by omega
        simp only [putCells, Array.toList_mapIdx, List.getElem?_mapIdx, Array.getElem?_toList, Array.getElem?_eq_getElem hc, Option.map_some, size_flatK, Nat.zero_add, id]
        rw [if_pos ⟨Nat.zero_le _, hj'⟩, Nat.sub_zero, get_flatK _ _ _ _ hj']
      · rw [if_neg hj, List.getElem?_eq_none (by rw [cellsE_length]; omega)]
  · intro B hB
    refine ⟨rfl, rfl, rfl, ?_, fun k hk => ?_⟩
    · rw [hheap]; simp
    · rw [hheap, Array.getElem?_append_left (by simp; omega), Array.getElem?_modify, if_neg (by omega)]

theorem blk_setCells {t : TypeId} {fr : Nat × Nat} {g : Nat} : ∀ (vs : List Value) (w : World) (o : Nat) (cur : Array Value), w.heap[g]? = some (.cells cur t fr) →
    ∃ cur' : Array Value, (w.setCells g o vs).heap[g]? = some (.cells cur' t fr) ∧ cur'.size = cur.size ∧ (∀ j, j < o ∨ o + vs.length ≤ j → cur'[j]? = cur[j]?) ∧ (∀ j (hj : j < vs.length), o + j < cur.size → cur'[o + j]? = some vs[j])
  | [], w, o, cur, h => ⟨cur, h, rfl, fun _ _ => rfl, fun j hj => by simp at hj⟩
  | v :: vs, w, o, cur, h => by
    have h1 : (w.setCell ⟨g, o, none⟩ v).heap[g]? = some (.cells (cur.setIfInBounds o v) t fr) := by
      simp [World.setCell, Array.getElem?_modify, h]
    obtain ⟨cur', a, b, c, d⟩ := blk_setCells vs (w.setCell ⟨g, o, none⟩ v) (o + 1) _ h1
    refine ⟨cur', a, by simpa using b, fun j hj => ?_, fun j hj hs => ?_⟩
    · simp only [List.length_cons] at hj
      rw [c j (by omega), Array.getElem?_setIfInBounds, if_neg (by omega)]
    · rcases Nat.eq_zero_or_pos j with rfl | hp
      · rw [Nat.add_zero, c o (by omega), Array.getElem?_setIfInBounds, if_pos rfl, if_pos (by simpa using hs)]; rfl
      · have := d (j - 1) (by simp at hj; omega) (by simp; omega)
        rw [show o + j = o + 1 + (j - 1) by omega, this]
        congr 1
        obtain ⟨i, rfl⟩ : ∃ i, j = i + 1 := ⟨j - 1, by omega⟩
        rfl

theorem below_setCells {B g : Nat} (hB : B ≤ g) : ∀ (vs : List Value) (w0 w : World) (o : Nat), Below B w0 w → Below B w0 (w.setCells g o vs)
  | [], _, _, _, h => h
  | v :: vs, w0, _, o, h => below_setCells hB vs w0 _ (o + 1) (h.setCell (p := ⟨g, o, none⟩) hB v)

theorem EB.store {w : World} {g : Nat} {l : List Ed} (h : EB w g l) (i : Nat) (hi : i < l.length) (x : Ed) : EB (w.setCells g (i * 3) (Ed.cells x)) g (l.set i x) := by
  obtain ⟨cur, hg, hs, ht⟩ := h
  obtain ⟨cur', a, b, c, d⟩ := blk_setCells (Ed.cells x) w (i * 3) cur hg
  have hsz : i * 3 + 3 ≤ cur.size := by omega
  refine ⟨cur', a, by rw [b]; simpa using hs, ?_⟩
  apply List.ext_getElem?
  intro j
  rw [List.getElem?_take]
  simp only [List.length_set]
  by_cases hj : j < l.length * 3
  · rw [if_pos hj, Array.getElem?_toList]
    have e0 : (cellsE l)[j]? = cur[j]? := by rw [← ht, List.getElem?_take, if_pos hj, Array.getElem?_toList]
    have f1 := flat_get l.toArray j (by simpa using hj)
    have f2 := flat_get (l.set i x).toArray j (by simpa using hj)
    rw [f2]
    by_cases hji : j / 3 = i
    · have := d (j - i * 3) (by simp [Ed.cells]; omega) (by omega)
      rw [show i * 3 + (j - i * 3) = j by omega] at this
      rw [this]
      have e3 : ((l.set i x).toArray)[j / 3]! = x := by rw [getElem!_pos _ _ (by simp; omega)]; simp [hji]
      rw [e3, getElem!_pos _ _ (by simp [Ed.cells]; omega)]
      congr 2
      omega
    · rw [c j (by simp [Ed.cells]; omega), ← e0, f1]
      have e3 : ((l.set i x).toArray)[j / 3]! = (l.toArray)[j / 3]! := by
        rw [getElem!_pos _ _ (by simp; omega), getElem!_pos _ _ (by simp; omega)]
        simp [Ne.symm hji]
      rw [e3]
  · rw [if_neg hj, List.getElem?_eq_none (by rw [cellsE_length, List.length_set]; omega)]

/-- what lies ahead of a run of stores stays -/
theorem EB.cut {w : World} {g : Nat} {l : List Ed} (h : EB w g l) (k : Nat) (vs : List Value) : EB (w.setCells g (k * 3) vs) g (l.take k) := by
  obtain ⟨cur, hg, hs, ht⟩ := h
  obtain ⟨cur', a, b, c, _⟩ := blk_setCells vs w (k * 3) cur hg
  have hl : (l.take k).length = min k l.length := List.length_take
  refine ⟨cur', a, by rw [b]; omega, ?_⟩
  apply List.ext_getElem?
  intro j
  rw [List.getElem?_take]
  by_cases hj : j < (l.take k).length * 3
  · rw [if_pos hj, Array.getElem?_toList, c j (by omega)]
    have e0 : (cellsE l)[j]? = cur[j]? := by rw [← ht, List.getElem?_take, if_pos (by omega), Array.getElem?_toList]
    rw [← e0]
    conv => lhs; rw [← List.take_append_drop k l]
    rw [cellsE_append, List.getElem?_append_left (by rw [cellsE_length]; exact hj)]
  · rw [if_neg hj, List.getElem?_eq_none (by rw [cellsE_length]; omega)]

/-- slices.SortFunc over edits by the program's own comparison -/
theorem sortE_any (g c : Nat) (l : List Ed) (w : World) (h : EB w g l) (hl : l.length ≤ 1000000) :
    Calls Tryd.prog 98 #[.slice (some ⟨g, 0, none⟩) l.length c, .func (.func 68) #[] #[]] w fun e w' =>
      e = .returned (.tuple #[]) ∧ ∃ l' : List Ed, l'.length = l.length ∧ l'.Perm l ∧ l'.Pairwise (fun a b => ¬ ltE b a) ∧ EB w' g l' ∧ ∀ B, B ≤ g → Below B w w' := by
  have eg : ∀ args w, (callFunc 68 args).run Tryd.prog w = .ok (.enter 68 args) w := enters_of Tryd.func68 (by kernel_rfl) rfl
  have hcon := AnyQ.slices_SortFunc Tryd.sortEd 3 Tryd.isAgg46 Tryd.sizeOf46 Ed.cells (fun _ => rfl) (fun x v hv => by simp [Ed.cells] at hv; rcases hv with rfl | rfl | rfl <;> rfl) cmpE swoE 68 #[] g 0 c l.toArray w eg (cmpLays g 0 l.toArray.size w) h.holds h.lt (by simp; omega)
  refine hcon.mono ?_
  rintro e w' ⟨rfl, d', n, os, hp, hs, rfl⟩
  obtain ⟨hp1, _, hp3⟩ := hp
  have hsz : d'.size = l.length := by simpa using hp1
  refine ⟨rfl, d'.toList, by simpa using hsz, ?_, ?_, (h.sorted hsz).1, (h.sorted hsz).2⟩
  · have e1 : (d'.extract 0 l.toArray.size).toList = d'.toList := by simp [← hsz]
    have e2 : (l.toArray.extract 0 l.toArray.size).toList = l := by simp
    rw [e1, e2] at hp3
    exact hp3
  · rw [List.pairwise_iff_getElem]
    intro i j hi hj hij hlt
    have hj' : j < d'.size := by simpa using hj
    have := hs i j (Nat.zero_le _) hij (by simp; omega)
    rw [getElem!_pos d' j hj', getElem!_pos d' i (by omega)] at this
    unfold ltOf at this
    rw [decide_eq_false_iff_not, cmpE_neg] at this
    exact this (by simpa using hlt)

end Go.Proofs.YtgpmodbndngcoaaDoor
