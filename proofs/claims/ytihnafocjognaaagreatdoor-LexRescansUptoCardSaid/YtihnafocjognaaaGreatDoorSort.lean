/- A block that holds edits: reading, writing, sorting. EqEdits: whether two lists of edits are the same. Plain: an edit that sinks to its place; rows of edits that are owned. -/
import Derived.Test.YtihnafocjognaaaGreatDoorOrder
import Derived.Test.YtihnafocjognaaaGreatDoorEd
import Derived.Test.YtihnafocjognaaaGreatDoorShelfS
import Derived.RegionTactic
import Derived.Shelf.SlSortCmp.NoneTotal

namespace Go.Proofs.YtihnafocjognaaaGreatDoor
open Go.RowKit Go.Sort

/-- block g holds the edits l at its head, and is not frozen -/
def EB (w : World) (g : Nat) (l : List Ed) : Prop :=
  ∃ cur : Array Value, w.heap[g]? = some (.cells cur 24 (0, 0)) ∧ l.length * 3 ≤ cur.size ∧ cur.toList.take (l.length * 3) = cellsE l

theorem EB.lt {w : World} {g : Nat} {l : List Ed} (h : EB w g l) : g < w.heap.size := by
  obtain ⟨cur, hg, _⟩ := h
  exact (Array.getElem?_eq_some_iff.1 hg).1

theorem EB.cells {w : World} {g : Nat} {l : List Ed} (h : EB w g l) (j : Nat) (u : Value) (hj : (cellsE l)[j]? = some u) : w.cell? ⟨g, j, none⟩ = some u := by
  obtain ⟨cur, hg, hs, ht⟩ := h
  rw [cell_of_row w g j cur _ (0, 0) hg]
  rw [← ht, List.getElem?_take] at hj
  split at hj
  · simpa using hj
  · cases hj

theorem EB.frozen {w : World} {g : Nat} {l : List Ed} (h : EB w g l) (o : Nat) : w.frozen? ⟨g, o, none⟩ = false := by
  obtain ⟨cur, hg, _⟩ := h
  simp [World.frozen?, hg]

theorem EB.at_ {w : World} {g : Nat} {l : List Ed} (h : EB w g l) (i : Nat) (hi : i < l.length) :
    w.cell? ⟨g, i * 3, none⟩ = some (.int .i64 l[i].f) ∧ w.cell? ⟨g, i * 3 + 1, none⟩ = some (.int .i64 l[i].t) ∧ w.cell? ⟨g, i * 3 + 2, none⟩ = some (.string l[i].s) := by
  obtain ⟨h0, h1, h2⟩ := cellsE_get l i hi
  exact ⟨h.cells _ _ h0, h.cells _ _ h1, h.cells _ _ h2⟩

theorem EB.esl {w : World} {g : Nat} {l : List Ed} (h : EB w g l) : ESl w w.heap.size (some ⟨g, 0, none⟩) l :=
  fun _ => ⟨g, 0, rfl, h.lt, fun j u hu => by rw [Nat.zero_add]; exact h.cells j u hu⟩

theorem EB.of_own {w : World} {base g c : Nat} {l : List Ed} (h : w.ownsRow base 24 3 (.slice (some ⟨g, 0, none⟩) l.length c) l.length (cellsE l)) : EB w g l ∧ base ≤ g ∧ l.length ≤ c ∧ c ≤ maxLen := by
  rcases h.2 with ⟨e, _⟩ | ⟨g', cap, cur, e, hb, hg, hn, hc, hs, ht⟩
  · cases e
  · injection e with e1 e2 e3
    injection e1 with e1
    injection e1 with e1
    subst e1 e3
    exact ⟨⟨cur, hg, by rw [hs]; exact Nat.mul_le_mul_right _ hn, ht⟩, hb, hn, hc⟩

theorem flat_get (d : Array Ed) (j : Nat) (hj : j < d.size * 3) : (cellsE d.toList)[j]? = some ((Ed.cells d[j / 3]!)[j % 3]!) := by
  have hi : j / 3 < d.size := by omega
  obtain ⟨h0, h1, h2⟩ := cellsE_get d.toList (j / 3) (by simpa using hi)
  rw [getElem!_pos d (j / 3) hi]
  simp only [Array.getElem_toList] at h0 h1 h2
  generalize d[j / 3] = x at *
  rcases (by omega : j % 3 = 0 ∨ j % 3 = 1 ∨ j % 3 = 2) with e | e | e
  · rw [show j / 3 * 3 = j by omega] at h0; rw [e, h0]; rfl
  · rw [show j / 3 * 3 + 1 = j by omega] at h1; rw [e, h1]; rfl
  · rw [show j / 3 * 3 + 2 = j by omega] at h2; rw [e, h2]; rfl

theorem EB.holds {w : World} {g : Nat} {l : List Ed} (h : EB w g l) : HoldsK Ed.cells 3 w g 0 l.toArray := fun j hj => by
  rw [size_flatK] at hj
  refine ⟨?_, h.frozen _⟩
  rw [Nat.zero_add, get_flatK _ _ _ _ hj]
  exact h.cells j _ (flat_get l.toArray j hj)

theorem EB.sorted {w : World} {g n : Nat} {l : List Ed} {os : Array Obj} {d : Array Ed} (h : EB w g l) (hd : d.size = l.length) : EB (sortWorldK Ed.cells 3 w g 0 n d os) g d.toList ∧ ∀ B, B ≤ g → Below B w (sortWorldK Ed.cells 3 w g 0 n d os) := by
  obtain ⟨cur, hg, hs, ht⟩ := h
  have hlt : g < w.heap.size := (Array.getElem?_eq_some_iff.1 hg).1
  have hheap : (sortWorldK Ed.cells 3 w g 0 n d os).heap = w.heap.modify g (onCells (putCells id 0 (flatK Ed.cells 3 d))) ++ os := rfl
  constructor
  · refine ⟨putCells id 0 (flatK Ed.cells 3 d) cur, ?_, ?_, ?_⟩
    · rw [hheap, Array.getElem?_append_left (by simpa using hlt), Array.getElem?_modify, if_pos rfl, hg]; rfl
    · simp [putCells, hd]; omega
    · apply List.ext_getElem?
      intro j
      rw [List.getElem?_take]
      by_cases hj : j < d.toList.length * 3
      · rw [if_pos hj]
        have hj' : j < d.size * 3 := by simpa using hj
        rw [flat_get d j hj']
        have hc : j < cur.size := by omega
        simp only [putCells, Array.toList_mapIdx, List.getElem?_mapIdx, Array.getElem?_toList, Array.getElem?_eq_getElem hc, Option.map_some, size_flatK, Nat.zero_add, id]
        rw [if_pos ⟨Nat.zero_le _, hj'⟩, Nat.sub_zero, get_flatK _ _ _ _ hj']
      · rw [if_neg hj, List.getElem?_eq_none (by rw [cellsE_length]; omega)]
  · intro B hB
    refine ⟨rfl, rfl, rfl, ?_, fun k hk => ?_⟩
    · rw [hheap]; simp
    · rw [hheap, Array.getElem?_append_left (by simp; omega), Array.getElem?_modify, if_neg (by omega)]

theorem blk_setCells {t : TypeId} {fr : Nat × Nat} {g : Nat} : ∀ (vs : List Value) (w : World) (o : Nat) (cur : Array Value), w.heap[g]? = some (.cells cur t fr) →
    ∃ cur' : Array Value, (w.setCells g o vs).heap[g]? = some (.cells cur' t fr) ∧ cur'.size = cur.size ∧ (∀ j, j < o ∨ o + vs.length ≤ j → cur'[j]? = cur[j]?) ∧ (∀ j (hj : j < vs.length), o + j < cur.size → cur'[o + j]? = some vs[j])
  | [], w, o, cur, h => ⟨cur, h, rfl, fun _ _ => rfl, fun j hj => by simp at hj⟩
  | v :: vs, w, o, cur, h => by
    have h1 : (w.setCell ⟨g, o, none⟩ v).heap[g]? = some (.cells (cur.setIfInBounds o v) t fr) := by
      simp [World.setCell, Array.getElem?_modify, h]
    obtain ⟨cur', a, b, c, d⟩ := blk_setCells vs (w.setCell ⟨g, o, none⟩ v) (o + 1) _ h1
    refine ⟨cur', a, by simpa using b, fun j hj => ?_, fun j hj hs => ?_⟩
    · simp only [List.length_cons] at hj
      rw [c j (by omega), Array.getElem?_setIfInBounds, if_neg (by omega)]
    · rcases Nat.eq_zero_or_pos j with rfl | hp
      · rw [Nat.add_zero, c o (by omega), Array.getElem?_setIfInBounds, if_pos rfl, if_pos (by simpa using hs)]; rfl
      · have := d (j - 1) (by simp at hj; omega) (by simp; omega)
        rw [show o + j = o + 1 + (j - 1) by omega, this]
        congr 1
        obtain ⟨i, rfl⟩ : ∃ i, j = i + 1 := ⟨j - 1, by omega⟩
        rfl

theorem below_setCells {B g : Nat} (hB : B ≤ g) : ∀ (vs : List Value) (w0 w : World) (o : Nat), Below B w0 w → Below B w0 (w.setCells g o vs)
  | [], _, _, _, h => h
  | v :: vs, w0, _, o, h => below_setCells hB vs w0 _ (o + 1) (h.setCell (p := ⟨g, o, none⟩) hB v)

theorem EB.store {w : World} {g : Nat} {l : List Ed} (h : EB w g l) (i : Nat) (hi : i < l.length) (x : Ed) : EB (w.setCells g (i * 3) (Ed.cells x)) g (l.set i x) := by
  obtain ⟨cur, hg, hs, ht⟩ := h
  obtain ⟨cur', a, b, c, d⟩ := blk_setCells (Ed.cells x) w (i * 3) cur hg
  have hsz : i * 3 + 3 ≤ cur.size := by omega
  refine ⟨cur', a, by rw [b]; simpa using hs, ?_⟩
  apply List.ext_getElem?
  intro j
  rw [List.getElem?_take]
  simp only [List.length_set]
  by_cases hj : j < l.length * 3
  · rw [if_pos hj, Array.getElem?_toList]
    have e0 : (cellsE l)[j]? = cur[j]? := by rw [← ht, List.getElem?_take, if_pos hj, Array.getElem?_toList]
    have f1 := flat_get l.toArray j (by simpa using hj)
    have f2 := flat_get (l.set i x).toArray j (by simpa using hj)
    rw [f2]
    by_cases hji : j / 3 = i
    · have := d (j - i * 3) (by simp [Ed.cells]; omega) (by omega)
      rw [show i * 3 + (j - i * 3) = j by omega] at this
      rw [this]
      have e3 : ((l.set i x).toArray)[j / 3]! = x := by rw [getElem!_pos _ _ (by simp; omega)]; simp [hji]
      rw [e3, getElem!_pos _ _ (by simp [Ed.cells]; omega)]
      congr 2
      omega
    · rw [c j (by simp [Ed.cells]; omega), ← e0, f1]
      have e3 : ((l.set i x).toArray)[j / 3]! = (l.toArray)[j / 3]! := by
        rw [getElem!_pos _ _ (by simp; omega), getElem!_pos _ _ (by simp; omega)]
        simp [Ne.symm hji]
      rw [e3]
  · rw [if_neg hj, List.getElem?_eq_none (by rw [cellsE_length, List.length_set]; omega)]

/-- what lies ahead of a run of stores stays -/
theorem EB.cut {w : World} {g : Nat} {l : List Ed} (h : EB w g l) (k : Nat) (vs : List Value) : EB (w.setCells g (k * 3) vs) g (l.take k) := by
  obtain ⟨cur, hg, hs, ht⟩ := h
  obtain ⟨cur', a, b, c, _⟩ := blk_setCells vs w (k * 3) cur hg
  have hl : (l.take k).length = min k l.length := List.length_take
  refine ⟨cur', a, by rw [b]; omega, ?_⟩
  apply List.ext_getElem?
  intro j
  rw [List.getElem?_take]
  by_cases hj : j < (l.take k).length * 3
  · rw [if_pos hj, Array.getElem?_toList, c j (by omega)]
    have e0 : (cellsE l)[j]? = cur[j]? := by rw [← ht, List.getElem?_take, if_pos (by omega), Array.getElem?_toList]
    rw [← e0]
    conv => lhs; rw [← List.take_append_drop k l]
    rw [cellsE_append, List.getElem?_append_left (by rw [cellsE_length]; exact hj)]
  · rw [if_neg hj, List.getElem?_eq_none (by rw [cellsE_length]; omega)]

/-- slices.SortFunc over edits by the program's own comparison -/
theorem sortE_any (g c : Nat) (l : List Ed) (w : World) (h : EB w g l) (hl : l.length ≤ 1000000) :
    Calls Tryz.prog 69 #[.slice (some ⟨g, 0, none⟩) l.length c, .func (.func 70) #[] #[]] w fun e w' =>
      e = .returned (.tuple #[]) ∧ ∃ l' : List Ed, l'.length = l.length ∧ l'.Perm l ∧ l'.Pairwise (fun a b => ¬ ltE b a) ∧ EB w' g l' ∧ ∀ B, B ≤ g → Below B w w' := by
  have eg : ∀ args w, (callFunc 70 args).run Tryz.prog w = .ok (.enter 70 args) w := enters_of Tryz.func70 (by kernel_rfl) rfl
  have hcon := AnyQ.slices_SortFunc Tryz.sortEd 3 Tryz.isAgg24 Tryz.sizeOf24 Ed.cells (fun _ => rfl) (fun x v hv => by simp [Ed.cells] at hv; rcases hv with rfl | rfl | rfl <;> rfl) cmpE swoE 70 #[] g 0 c l.toArray w eg (cmpLays g 0 l.toArray.size w) h.holds h.lt (by simp; omega)
  refine hcon.mono ?_
  rintro e w' ⟨rfl, d', n, os, hp, hs, rfl⟩
  obtain ⟨hp1, _, hp3⟩ := hp
  have hsz : d'.size = l.length := by simpa using hp1
  refine ⟨rfl, d'.toList, by simpa using hsz, ?_, ?_, (h.sorted hsz).1, (h.sorted hsz).2⟩
  · have e1 : (d'.extract 0 l.toArray.size).toList = d'.toList := by simp [← hsz]
    have e2 : (l.toArray.extract 0 l.toArray.size).toList = l := by simp
    rw [e1, e2] at hp3
    exact hp3
  · rw [List.pairwise_iff_getElem]
    intro i j hi hj hij hlt
    have hj' : j < d'.size := by simpa using hj
    have := hs i j (Nat.zero_le _) hij (by simp; omega)
    rw [getElem!_pos d' j hj', getElem!_pos d' i (by omega)] at this
    unfold ltOf at this
    rw [decide_eq_false_iff_not, cmpE_neg] at this
    exact this (by simpa using hlt)

end Go.Proofs.YtihnafocjognaaaGreatDoor

namespace Go.Proofs.YtihnafocjognaaaGreatDoor
open Go.RowKit Go.Sort

/-- '==' of two edits -/
theorem run_eqlEd (x y : Ed) (w : World) : (binOp .eql 24 (.agg #[.int .i64 x.f, .int .i64 x.t, .string x.s]) (.agg #[.int .i64 y.f, .int .i64 y.t, .string y.s])).run Tryz.prog w = .ok (.bool (decide (x = y))) w := by
  go_simp
  by_cases h : x = y
  · subst h; simp
  · rw [decide_eq_false h]
    by_cases h1 : x.f = y.f
    · by_cases h2 : x.t = y.t
      · by_cases h3 : x.s.toList = y.s.toList
        · exact absurd (Ed.ext' h1 h2 (ba_ext (by rw [ByteArray.toList_eq, ByteArray.toList_eq] at h3; exact h3))) h
        · simp [h1, h2, h3]
      · simp [h1, h2]
    · simp [h1]

theorem run_neqEd (x y : Ed) (w : World) : (binOp .neq 24 (.agg #[.int .i64 x.f, .int .i64 x.t, .string x.s]) (.agg #[.int .i64 y.f, .int .i64 y.t, .string y.s])).run Tryz.prog w = .ok (.bool (!decide (x = y))) w := by
  have h := run_eqlEd x y w
  rw [run_eql_struct] at h
  rw [run_neq_struct]
  cases hr : (Op.equalIn 10000 24 (.agg #[.int .i64 x.f, .int .i64 x.t, .string x.s]) (.agg #[.int .i64 y.f, .int .i64 y.t, .string y.s])).run Tryz.prog w with
  | ok b w' =>
    rw [hr] at h
    simp only [Result.andThen, Result.ok.injEq, Value.bool.injEq] at h ⊢
    exact ⟨by rw [h.1], h.2⟩
  | halt e w' => rw [hr] at h; simp [Result.andThen] at h

theorem compE_snoc : ∀ (p : List Ed) (x y : Ed), compE (p ++ [x, y]) = if x = y then compE (p ++ [x]) else compE (p ++ [x]) ++ [y]
  | [], x, y => by
    by_cases h : x = y
    · subst h; simp [compE]
    · simp [compE, h]
  | [a], x, y => by
    have ih := compE_snoc [] x y
    simp only [List.nil_append] at ih
    show (if a = x then compE [x, y] else a :: compE [x, y]) = if x = y then (if a = x then compE [x] else a :: compE [x]) else (if a = x then compE [x] else a :: compE [x]) ++ [y]
    rw [ih]
    by_cases h : x = y <;> by_cases g : a = x <;> simp [h, g]
  | a :: b :: p, x, y => by
    have ih := compE_snoc (b :: p) x y
    show (if a = b then compE (b :: p ++ [x, y]) else a :: compE (b :: p ++ [x, y])) = if x = y then (if a = b then compE (b :: p ++ [x]) else a :: compE (b :: p ++ [x])) else (if a = b then compE (b :: p ++ [x]) else a :: compE (b :: p ++ [x])) ++ [y]
    rw [ih]
    by_cases h : x = y <;> by_cases g : a = b <;> simp [h, g]

theorem compE_take (l : List Ed) (k : Nat) (h1 : 1 ≤ k) (h : k < l.length) : compE (l.take (k + 1)) = if l[k] = l[k - 1] then compE (l.take k) else compE (l.take k) ++ [l[k]] := by
  obtain ⟨j, rfl⟩ : ∃ j, k = j + 1 := ⟨k - 1, by omega⟩
  have e1 : l.take (j + 1) = l.take j ++ [l[j]] := by rw [List.take_succ_eq_append_getElem (by omega)]
  have e2 : l.take (j + 1 + 1) = l.take j ++ [l[j], l[j + 1]] := by rw [List.take_succ_eq_append_getElem h, e1, List.append_assoc]; rfl
  rw [e2, e1, compE_snoc]
  simp only [Nat.add_sub_cancel]
  by_cases g : l[j] = l[j + 1]
  · rw [if_pos g, if_pos g.symm]
  · rw [if_neg g, if_neg (fun e => g e.symm)]

theorem compE_one (l : List Ed) (h : l.length < 2) : compE l = l := by
  match l, h with
  | [], _ => rfl
  | [x], _ => rfl

def zeroEd : Ed := ⟨0, 0, ⟨#[]⟩⟩

theorem zeros_cells (n : Nat) : (Builtin.zeroCells (Value.agg #[.int .i64 0, .int .i64 0, .string ⟨#[]⟩]).cells n).toList.length = n * 3 := by
  simp [Builtin.zeroCells, Value.cells]

theorem zeros_one (n : Nat) : ∀ v ∈ (Builtin.zeroCells (Value.agg #[.int .i64 0, .int .i64 0, .string ⟨#[]⟩]).cells n).toList, v.oneCell' = true := by
  intro v hv
  simp only [Builtin.zeroCells, Value.cells] at hv
  simp at hv
  obtain ⟨a, ha, rfl⟩ := hv
  rcases (by omega : a % 3 = 0 ∨ a % 3 = 1 ∨ a % 3 = 2) with e | e | e <;> rw [e] <;> rfl

theorem run_clearEd {w : World} {g : Nat} {m : List Ed} (h : EB w g m) (k n c : Nat) (hn : 0 < n) (hk : k + n = m.length) (ty : TypeId) :
    (Builtin.clear_ #[38] ty #[.slice (some ⟨g, k * 3, none⟩) n c]).run Tryz.prog w = .ok (.tuple #[]) (w.setCells g (k * 3) (Builtin.zeroCells (Value.agg #[.int .i64 0, .int .i64 0, .string ⟨#[]⟩]).cells n).toList) := by
  have hz := zeros_cells n
  have hz1 := zeros_one n
  have hst := run_storeCells_cells (P := Tryz.prog) g (k * 3) (Builtin.zeroCells (Value.agg #[.int .i64 0, .int .i64 0, .string ⟨#[]⟩]).cells n).toList 0 w
    (fun j hj => by
      rw [hz] at hj
      have : k * 3 + 0 + j < (cellsE m).length := by rw [cellsE_length]; omega
      rw [h.cells _ _ (List.getElem?_eq_getElem this)]; rfl)
    (fun j _ => h.frozen _) hz1
  simp only [Nat.add_zero] at hst
  obtain ⟨n', rfl⟩ : ∃ n', n = n' + 1 := ⟨n - 1, by omega⟩
  simp [Builtin.clear_, run_underlying Tryz.underlying38, Tryz.zeroValue24, hst]

theorem below_drewN' {B : Nat} {a w : World} (h : Below B a w) (n : Nat) : Below B a (w.drewN n) := ⟨h.os, h.tape, h.output, h.size, h.block⟩

/-- where the inner loop stands: kk kept so far, all before place p looked at, m what the block holds -/
def CInv (l m : List Ed) (kk p : Nat) : Prop :=
  m.length = l.length ∧ 1 ≤ p ∧ p ≤ l.length ∧ kk < p ∧ m.take kk = compE (l.take p) ∧ (compE (l.take p)).length = kk ∧ m.drop (p - 1) = l.drop (p - 1)

theorem CInv.start {l : List Ed} {k : Nat} (h1 : 1 ≤ k) (h : k < l.length) (hc : compE (l.take k) = l.take k) (hd : l[k] = l[k - 1]) : CInv l l k (k + 1) := by
  refine ⟨rfl, by omega, by omega, by omega, ?_, ?_, rfl⟩
  · rw [compE_take l k h1 h, if_pos hd, hc]
  · rw [compE_take l k h1 h, if_pos hd, hc, List.length_take]; omega

theorem drop_get {l m : List Ed} {q j : Nat} (h : m.drop q = l.drop q) (hj : q ≤ j) (hl : j < l.length) (hm : j < m.length) : m[j] = l[j] := by
  have e := congrArg (fun x => x[j - q]?) h
  simp only [List.getElem?_drop, show q + (j - q) = j by omega, List.getElem?_eq_getElem hl, List.getElem?_eq_getElem hm, Option.some.injEq] at e
  exact e

theorem drop_more {l m : List Ed} {q q' : Nat} (h : m.drop q = l.drop q) (hq : q ≤ q') : m.drop q' = l.drop q' := by
  have e := congrArg (List.drop (q' - q)) h
  rwa [List.drop_drop, List.drop_drop, show q + (q' - q) = q' by omega] at e

theorem CInv.skip {l m : List Ed} {kk p : Nat} (h : CInv l m kk p) (hp : p < l.length) (hd : l[p] = l[p - 1]) : CInv l m kk (p + 1) := by
  obtain ⟨a, b, c, d, e, f, g⟩ := h
  have ct := compE_take l p b hp
  rw [if_pos hd] at ct
  exact ⟨a, by omega, by omega, by omega, by rw [ct, e], by rw [ct, f], drop_more g (by omega)⟩

theorem CInv.put {l m : List Ed} {kk p : Nat} (h : CInv l m kk p) (hp : p < l.length) (hd : l[p] ≠ l[p - 1]) : CInv l (m.set kk l[p]) (kk + 1) (p + 1) := by
  obtain ⟨a, b, c, d, e, f, g⟩ := h
  have ct := compE_take l p b hp
  rw [if_neg hd] at ct
  refine ⟨by simpa using a, by omega, by omega, by omega, ?_, by rw [ct, List.length_append, f]; rfl, ?_⟩
  · rw [ct, ← e, List.take_succ_eq_append_getElem (by simp; omega), List.take_set_of_le (Nat.le_refl _), List.getElem_set_self]
  · rw [List.drop_set_of_lt (by omega)]
    exact drop_more g (by omega)

set_option maxHeartbeats 1000000 in
set_option maxRecDepth 100000 in
theorem compactE_any (g c : Nat) (l : List Ed) (w : World) (h : EB w g l) (hl : l.length ≤ 1000000) (hc : l.length ≤ c) (hc2 : c ≤ maxLen) :
    Calls Tryz.prog 71 #[.slice (some ⟨g, 0, none⟩) l.length c] w fun e w' =>
      e = .returned (.slice (some ⟨g, 0, none⟩) (compE l).length c) ∧ EB w' g (compE l) ∧ ∀ B, B ≤ g → Below B w w' := by
  unfold maxLen at hc2
  by_cases h2 : l.length < 2
  · have ho := compE_one l h2
    have HO := Lib.hid ho
    have HH := Lib.hid h
    clear ho h
    go_enter Tryz.func71, Tryz.ntmps71
    go_wp2
    go_ret
    rw [HO.out]
    exact ⟨rfl, HH.out, fun B _ => Below.refl B _⟩
  · go_enter Tryz.func71, Tryz.ntmps71
    go_wp2
    go_loopw [3] (fun i wr => ∃ k q : Nat, 1 ≤ k ∧ k ≤ l.length ∧ i = .int .i64 k ∧ wr = w.drewN q ∧ Hid (compE (l.take k) = l.take k)) (fun i _ => l.length - (intOf i).toNat)
    case atStart => exact ⟨1, 0, by omega, by omega, rfl, rfl, compE_one _ (by rw [List.length_take]; omega)⟩
    case round =>
      obtain ⟨k, q, hk1, hk, rfl, rfl, hcm⟩ := hrel
      by_cases hlt : k < l.length
      · obtain ⟨c0, c1, c2⟩ := h.at_ k hlt
        obtain ⟨d0, d1, d2⟩ := h.at_ (k - 1) (by omega)
        have e1 : ((k : Int) - 1).toNat = k - 1 := by omega
        have HH := Lib.hid h
        clear h
        have ct := compE_take l k hk1 hlt
        have HI := fun hd => Lib.hid (CInv.start hk1 hlt hcm.out hd)
        rw [hcm.out] at ct
        generalize hx : l[k] = x at *
        generalize hy : l[k - 1] = y at *
        have HX := Lib.hid hx
        have HY := Lib.hid hy
        have HCT := Lib.hid ct
        clear hx hy ct
        have hI2 := Lib.hid HI
        clear HI
        have heq := fun W => run_eqlEd x y W
        by_cases hxy : x = y
        · have hxy' : decide (x = y) = true := by simp [hxy]
          rw [hxy'] at heq
          have HXY := Lib.hid hxy
          clear hxy hxy'
          go_wp2
          go_region
          go_wp2
          clear heq c0 c1 c2 d0 d1 d2
          have hi := hI2.out HXY.out
          clear hI2 HCT HXY HX HY hcm e1
          go_loopw [3, 5] (fun i j wr => ∃ (kk k2 : Nat) (m : List Ed), i = .int .i64 kk ∧ j = .int .i64 k2 ∧ 1 ≤ k2 ∧ Hid (CInv l m kk (k + k2)) ∧ Hid (EB wr g m) ∧ Hid (∀ B, B ≤ g → Below B w wr)) (fun _ j _ => l.length - k - (intOf j).toNat)
          case atStart => exact ⟨k, 1, l, rfl, rfl, Nat.le_refl _, hi, (by obtain ⟨cur, hh⟩ := HH.out; exact ⟨cur, hh⟩), fun B _ => below_drewN' (Below.refl B _) _⟩
          case round =>
            obtain ⟨kk, k2, m, rfl, rfl, hk2, hI, hE, hB⟩ := hrel
            have hI1 := hI.out
            obtain ⟨i1, i2, i3, i4, i5, i6, i7⟩ := hI1
            have hE1 := hE.out
            by_cases hlt2 : k + k2 < l.length
            · obtain ⟨c0, c1, c2⟩ := hE1.at_ (k + k2) (by omega)
              obtain ⟨d0, d1, d2⟩ := hE1.at_ (k + k2 - 1) (by omega)
              obtain ⟨s0, s1, s2⟩ := hE1.at_ kk (by omega)
              have f0 := hE1.frozen (kk * 3)
              have f1 := hE1.frozen (kk * 3 + 1)
              have f2 := hE1.frozen (kk * 3 + 2)
              rw [drop_get i7 (by omega) (by omega) (by omega)] at c0 c1 c2 d0 d1 d2
              rw [show (k + k2) * 3 = k * 3 + k2 * 3 by omega] at c0 c1 c2
              rw [show (k + k2 - 1) * 3 = k * 3 + (k2 - 1) * 3 by omega] at d0 d1 d2
              have e2 : ((k2 : Int) - 1).toNat = k2 - 1 := by omega
              have hS := fun hd => Lib.hid (hI.out.skip hlt2 hd)
              have hP := fun hd => Lib.hid (hI.out.put hlt2 hd)
              have hSt := Lib.hid (hE1.store kk (by omega) l[k + k2])
              generalize l[k + k2] = x2 at *
              generalize l[k + k2 - 1] = y2 at *
              generalize m[kk] = z2 at *
              clear i1 i2 i3 i5 i6 i7 hE1 hI
              have HS := Lib.hid hS
              have HP := Lib.hid hP
              clear hS hP
              have heq := fun W => run_neqEd x2 y2 W
              by_cases hxy : x2 = y2
              · have hxy' : (!decide (x2 = y2)) = false := by simp [hxy]
                rw [hxy'] at heq
                have HXY := Lib.hid hxy
                clear hxy hxy'
                go_wp2
                go_region
                go_wp2
                go_roundw
                case rel => exact ⟨kk, k2 + 1, m, rfl, by go_num, by omega, HS.out HXY.out |>.out, (by obtain ⟨cur, hh⟩ := hE.out; exact ⟨cur, hh⟩), fun B hb => (hB.out B hb).drew⟩
                case measure => simp [intOf]; omega
              · have hxy' : (!decide (x2 = y2)) = true := by simp [hxy]
                rw [hxy'] at heq
                have HXY := Lib.hid hxy
                clear hxy hxy'
                go_wp2
                go_region
                go_wp2
                go_roundw
                case rel => exact ⟨kk + 1, k2 + 1, m.set kk x2, by go_num, by go_num, by omega, (HP.out HXY.out).out, hSt.out, fun B hb => ((((hB.out B hb).setCell (p := ⟨g, kk * 3, none⟩) hb _).setCell (p := ⟨g, kk * 3 + 1, none⟩) hb _).setCell (p := ⟨g, kk * 3 + 2, none⟩) hb _).drew⟩
                case measure => simp [intOf]; omega
            · have hcl := fun ty => run_clearEd hE1 kk (l.length - kk) (c - kk) (by omega) (by omega) ty
              have hcut := hE1.cut kk (Builtin.zeroCells (Value.agg #[.int .i64 0, .int .i64 0, .string ⟨#[]⟩]).cells (l.length - kk)).toList
              rw [i5, show k + k2 = l.length by omega, List.take_length] at hcut
              rw [show k + k2 = l.length by omega, List.take_length] at i6
              generalize (Builtin.zeroCells (Value.agg #[.int .i64 0, .int .i64 0, .string ⟨#[]⟩]).cells (l.length - kk)).toList = zs at *
              have hcut := Lib.hid hcut
              have I6 := Lib.hid i6
              have hkl : kk < l.length := by omega
              clear hI hE hE1 i1 i2 i3 i4 i5 i6 i7
              go_wp2
              go_ret
              rw [I6.out]
              exact ⟨rfl, hcut.out, fun B hb => below_setCells hb _ _ _ _ (hB.out B hb)⟩
        · have hxy' : decide (x = y) = false := by simp [hxy]
          rw [hxy'] at heq
          have HXY := Lib.hid hxy
          clear hxy hxy'
          go_wp2
          go_region
          go_wp2
          go_roundw
          case rel =>
            refine ⟨k + 1, q + 1, by omega, by omega, by go_num, rfl, ?_⟩
            unfold Hid
            rw [HCT.out, if_neg HXY.out, ← HX.out, List.take_succ_eq_append_getElem hlt]
          case measure => simp [intOf]; omega
      · have hkl : k = l.length := by omega
        have HH := Lib.hid h
        have HC := hcm.out
        rw [hkl, List.take_length] at HC
        have HC := Lib.hid HC
        clear h hcm hkl
        go_wp2
        go_ret
        rw [HC.out]
        exact ⟨rfl, HH.out, fun B _ => below_drewN' (Below.refl B _) _⟩

end Go.Proofs.YtihnafocjognaaaGreatDoor

namespace Go.Proofs.YtihnafocjognaaaGreatDoor
open Go.RowKit Go.Sort

/-- the slice value v reads as the edits l -/
def IsE (w : World) (v : Value) (l : List Ed) : Prop :=
  ∃ A c, v = .slice A l.length c ∧ (A = none → l = [] ∧ c = 0) ∧ l.length ≤ c ∧ c ≤ maxLen ∧ ESl w w.heap.size A l

theorem IsE.below {w w' : World} {v : Value} {l : List Ed} (h : IsE w v l) (hb : Below w.heap.size w w') : IsE w' v l := by
  obtain ⟨A, c, e, hA, h1, h2, hE⟩ := h
  exact ⟨A, c, e, hA, h1, h2, (hE.below hb).more hb.size⟩

theorem IsE.nil (w : World) : IsE w (.slice none 0 0) [] := ⟨none, 0, rfl, fun _ => ⟨rfl, rfl⟩, Nat.le_refl _, Nat.zero_le _, Rd.nil⟩

theorem IsE.of_own {w : World} {base n : Nat} {v : Value} {l : List Ed} (hn : n = l.length) (h : w.ownsRow base 24 3 v n (cellsE l)) : IsE w v l := by
  subst hn
  rcases h.2 with ⟨rfl, e⟩ | ⟨g, cap, cur, rfl, hb, hg, hnc, hc, hs, ht⟩
  · have : l = [] := List.eq_nil_of_length_eq_zero e
    subst this
    exact IsE.nil w
  · exact ⟨_, cap, rfl, (fun e => by cases e), hnc, hc, Rd.of_own h⟩

theorem compE_ordF {l l' : List Ed} (hp : l'.Perm l) (hs : l'.Pairwise (fun a b => ¬ ltE b a)) : compE l' = ordF l :=
  ordF_of_sorted (sorted_compE l' hs) fun x => (mem_compE x l').trans hp.mem_iff

theorem sortE_none (w : World) : Calls Tryz.prog 69 #[.slice none 0 0, .func (.func 70) #[] #[]] w fun e w' => e = .returned (.tuple #[]) ∧ w' = w :=
  AnyF.slices_SortFunc_none Tryz.sortEd none 0 _ w

set_option maxHeartbeats 400000 in
set_option maxRecDepth 100000 in
theorem compactE_none (w : World) : Calls Tryz.prog 71 #[.slice none 0 0] w fun e w' => e = .returned (.slice none 0 0) ∧ w' = w := by
  go_enter Tryz.func71, Tryz.ntmps71
  go_wp2
  go_ret
  exact ⟨rfl, rfl⟩

set_option maxHeartbeats 400000 in
set_option maxRecDepth 100000 in
theorem ordered_any (v : Value) (l : List Ed) (w : World) (hl : l.length ≤ 1000000) (h : IsE w v l) :
    Calls Tryz.prog 46 #[v] w fun e w' => ∃ v', e = .returned v' ∧ IsE w' v' (ordF l) ∧ Below w.heap.size w w' := by
  obtain ⟨A, c, rfl, hA, h1, h2, hE⟩ := h
  have hcl := Lib.hid (cloneE_any A c l w hl hA hE)
  clear hE
  go_enter Tryz.func46, Tryz.ntmps46
  go_wp2_with (go_at_call 68; refine hcl.out.mono ?_; rintro e w1 ⟨A1, c1, rfl, ho, hb⟩)
  rcases A1 with _ | ad
  · have hl0 : l = [] ∧ c1 = 0 := by
      rcases ho.2 with ⟨e, e0⟩ | ⟨g, cap, cur, e, _⟩
      · injection e with _ _ e3
        exact ⟨List.eq_nil_of_length_eq_zero e0, e3⟩
      · cases e
    obtain ⟨rfl, rfl⟩ := hl0
    clear ho hcl
    go_wp2_with (first | (go_at_call 69; refine (sortE_none _).mono ?_; rintro e w' ⟨rfl, rfl⟩) | (go_at_call 71; refine (compactE_none _).mono ?_; rintro e w' ⟨rfl, rfl⟩))
    go_ret
    exact ⟨_, rfl, IsE.nil _, hb⟩
  · obtain ⟨g, rfl, hg⟩ : ∃ g, ad = ⟨g, 0, none⟩ ∧ w.heap.size ≤ g := by
      rcases ho.2 with ⟨e, _⟩ | ⟨g, cap, cur, e, hbg, _⟩
      · cases e
      · injection e with e
        injection e with e
        exact ⟨g, e, hbg⟩
    obtain ⟨hEB, _, hc1, hc2⟩ := EB.of_own ho
    have hs := Lib.hid (sortE_any g c1 l w1 hEB hl)
    clear ho hcl hEB
    go_wp2_with (go_at_call 69; refine hs.out.mono ?_; rintro e w2 ⟨rfl, l', hl', hp, hso, hEB, hb2⟩)
    have hB2 := hb.trans (hb2 _ hg)
    have HO := Lib.hid (compE_ordF hp hso)
    have hk := compactE_any g c1 l' w2 hEB (by omega) (by omega) hc2
    rw [HO.out, hl'] at hk
    have hk := Lib.hid hk
    clear hs hb hb2 hEB hp hso hl'
    go_wp2_with (go_at_call 71; refine hk.out.mono ?_; rintro e w3 ⟨rfl, hEB3, hb3⟩)
    go_ret
    have hlen : (ordF l).length ≤ c1 := Nat.le_trans (length_ordF l) hc1
    exact ⟨_, rfl, ⟨_, c1, rfl, fun e => by (cases e), hlen, hc2, hEB3.esl⟩, hB2.trans (hb3 _ hg)⟩

end Go.Proofs.YtihnafocjognaaaGreatDoor

namespace Go.Proofs.YtihnafocjognaaaGreatDoor
open Go.RowKit Go.Maps

end Go.Proofs.YtihnafocjognaaaGreatDoor

namespace Go.Proofs.YtihnafocjognaaaGreatDoor
open Go.RowKit Go.Sort Go.Maps

/-- x stands at place j, between what was there -/
def sunk (o : List Ed) (x : Ed) (j : Nat) : List Ed := o.take j ++ x :: o.drop j

theorem sunk_length (o : List Ed) (x : Ed) (j : Nat) : (sunk o x j).length = o.length + 1 := by
  unfold sunk
  have : o.length = (o.take j).length + (o.drop j).length := by rw [← List.length_append, List.take_append_drop]
  rw [List.length_append, List.length_cons, this]; omega

theorem sunk_end (o : List Ed) (x : Ed) : sunk o x o.length = o ++ [x] := by
  unfold sunk; rw [List.take_length, List.drop_length]

theorem sunk_at (o : List Ed) (x : Ed) (j : Nat) (h : j ≤ o.length) : (sunk o x j)[j]'(by rw [sunk_length]; omega) = x := by
  unfold sunk
  rw [List.getElem_append_right (by rw [List.length_take]; omega)]
  simp [Nat.min_eq_left h]

theorem sunk_before (o : List Ed) (x : Ed) (j : Nat) (h0 : 0 < j) (h : j ≤ o.length) : (sunk o x j)[j - 1]'(by rw [sunk_length]; omega) = o[j - 1]'(by omega) := by
  unfold sunk
  rw [List.getElem_append_left (by rw [List.length_take]; omega), List.getElem_take]

theorem sunk_swap (o : List Ed) (x : Ed) (j : Nat) (h0 : 0 < j) (h : j ≤ o.length) : ((sunk o x j).set j (o[j - 1]'(by omega))).set (j - 1) x = sunk o x (j - 1) := by
  obtain ⟨i, rfl⟩ : ∃ i, j = i + 1 := ⟨j - 1, by omega⟩
  simp only [Nat.add_sub_cancel]
  have e1 : o.take (i + 1) = o.take i ++ [o[i]] := by rw [List.take_succ_eq_append_getElem (by omega)]
  have e2 : o.drop i = o[i] :: o.drop (i + 1) := List.drop_eq_getElem_cons (by omega)
  have hl : (o.take i).length = i := by rw [List.length_take]; omega
  unfold sunk
  rw [e1, e2, List.append_assoc, List.set_append_right _ _ (by omega), hl, show i + 1 - i = 1 by omega]
  simp only [List.singleton_append, List.set_cons_succ, List.set_cons_zero]
  rw [List.set_append_right _ _ (by omega), hl, Nat.sub_self, List.set_cons_zero]

theorem sunk_mem (o : List Ed) (x y : Ed) (j : Nat) : y ∈ sunk o x j ↔ y = x ∨ y ∈ o := by
  unfold sunk
  have : y ∈ o ↔ y ∈ o.take j ∨ y ∈ o.drop j := by rw [← List.mem_append, List.take_append_drop]
  rw [this, List.mem_append, List.mem_cons]
  constructor
  · rintro (h | h | h)
    · exact .inr (.inl h)
    · exact .inl h
    · exact .inr (.inr h)
  · rintro (h | h | h)
    · exact .inr (.inl h)
    · exact .inl h
    · exact .inr (.inr h)

theorem sunk_sorted (o : List Ed) (x : Ed) (j : Nat) (ho : o.Pairwise ltE) (h1 : ∀ y ∈ o.take j, ltE y x) (h2 : ∀ y ∈ o.drop j, ltE x y) : (sunk o x j).Pairwise ltE := by
  unfold sunk
  rw [List.pairwise_append, List.pairwise_cons]
  refine ⟨ho.sublist (List.take_sublist _ _), ⟨h2, ho.sublist (List.drop_sublist _ _)⟩, fun a ha b hb => ?_⟩
  rcases List.mem_cons.1 hb with rfl | hb
  · exact h1 a ha
  · exact ltE_trans (h1 a ha) (h2 b hb)

/-- what stands ahead of a place is less, if the last of it is not greater and not the same -/
theorem take_less (o : List Ed) (x : Ed) (j : Nat) (h0 : 0 < j) (h : j ≤ o.length) (ho : o.Pairwise ltE) (hx : x ∉ o) (hn : ¬ cmpE x (o[j - 1]'(by omega)) < 0) : ∀ y ∈ o.take j, ltE y x := fun y hy => by
  have hm : o[j - 1] ∈ o := List.getElem_mem _
  have hlast : ltE (o[j - 1]'(by omega)) x := by
    rcases ltE_total (o[j - 1]'(by omega)) x with g | g | g
    · exact g
    · exact absurd (g ▸ hm) hx
    · exact absurd (cmpE_neg.2 g) hn
  obtain ⟨i, hi, rfl⟩ := List.getElem_of_mem hy
  rw [List.length_take] at hi
  rw [List.getElem_take]
  by_cases e : i = j - 1
  · subst e; exact hlast
  · exact ltE_trans (List.pairwise_iff_getElem.1 ho i (j - 1) (by omega) (by omega) (by omega)) hlast

/-- .. of what stands behind a place -/
theorem drop_more' (o : List Ed) (x : Ed) (j : Nat) (h0 : 0 < j) (h : j ≤ o.length) (hx : cmpE x (o[j - 1]'(by omega)) < 0) (hd : ∀ y ∈ o.drop j, ltE x y) : ∀ y ∈ o.drop (j - 1), ltE x y := fun y hy => by
  rw [List.drop_eq_getElem_cons (by omega : j - 1 < o.length), List.mem_cons, show j - 1 + 1 = j by omega] at hy
  rcases hy with rfl | hy
  · exact cmpE_neg.1 hx
  · exact hd y hy

theorem ord_same (l : List Ed) (k : Nat) (h : k < l.length) (hm : l[k] ∈ ordF (l.take k)) : ordF (l.take k) = ordF (l.take (k + 1)) :=
  ordF_of_sorted (sorted_ordF _) fun y => by
    rw [mem_ordF, List.take_succ_eq_append_getElem h, List.mem_append, List.mem_singleton]
    constructor
    · exact .inl
    · rintro (g | rfl)
      · exact g
      · exact (mem_ordF _ _).1 hm

theorem ord_sunk (l : List Ed) (k j : Nat) (h : k < l.length) (hs : (sunk (ordF (l.take k)) l[k] j).Pairwise ltE) : sunk (ordF (l.take k)) l[k] j = ordF (l.take (k + 1)) :=
  ordF_of_sorted hs fun y => by
    rw [sunk_mem, mem_ordF, List.take_succ_eq_append_getElem h, List.mem_append, List.mem_singleton]
    constructor
    · rintro (g | g)
      · exact .inr g
      · exact .inl g
    · rintro (g | g)
      · exact .inr g
      · exact .inl g

/-- a block of edits, as large as said -/
def SZ (w : World) (g n : Nat) : Prop := ∃ cur : Array Value, w.heap[g]? = some (.cells cur 24 (0, 0)) ∧ cur.size = n

theorem SZ.store {w : World} {g n : Nat} (h : SZ w g n) (i : Nat) (vs : List Value) : SZ (w.setCells g i vs) g n := by
  obtain ⟨cur, h1, h2⟩ := h
  obtain ⟨cur', a, b, _⟩ := blk_setCells vs w i cur h1
  exact ⟨cur', a, by rw [b, h2]⟩

theorem SZ.below {w w' : World} {B g n : Nat} (h : SZ w g n) (hb : Below B w w') (hg : g < B) : SZ w' g n := by
  obtain ⟨cur, h1, h2⟩ := h
  exact ⟨cur, (hb.block g hg).trans h1, h2⟩

theorem EB.below2 {w w' : World} {B g : Nat} {l : List Ed} (h : EB w g l) (hb : Below B w w') (hg : g < B) : EB w' g l := by
  obtain ⟨cur, h1, h2, h3⟩ := h
  exact ⟨cur, (hb.block g hg).trans h1, h2, h3⟩

theorem own_of_eb {w : World} {base g cap : Nat} {l : List Ed} (h : EB w g l) (hs : SZ w g (cap * 3)) (hb : base ≤ g) (hl : l.length ≤ cap) (hc : cap ≤ maxLen) :
    w.ownsRow base 24 3 (.slice (some ⟨g, 0, none⟩) l.length cap) l.length (cellsE l) := by
  obtain ⟨cur, h1, h2, h3⟩ := h
  obtain ⟨cur', g1, g2⟩ := hs
  rw [h1] at g1
  injection g1 with g1
  injection g1 with g1
  subst g1
  exact ⟨cellsE_length l, .inr ⟨g, cap, cur, rfl, hb, h1, hl, hc, g2, h3⟩⟩

theorem sz_of_own {w : World} {base g n cap : Nat} {xs : List Value} (h : w.ownsRow base 24 3 (.slice (some ⟨g, 0, none⟩) n cap) n xs) : SZ w g (cap * 3) := by
  rcases h.2 with ⟨e, _⟩ | ⟨g', cap', cur, e, _, hg, _, _, hs, _⟩
  · cases e
  · injection e with e1 e2 e3
    injection e1 with e1
    injection e1 with e1
    subst e1 e3
    exact ⟨cur, hg, hs⟩

end Go.Proofs.YtihnafocjognaaaGreatDoor
