/- What opens a law's tree, a list of numbers, and what shuts them behind the call. -/
import Derived.Test.YtcndfihcjaoifaaNd
import Derived.Deep.Slices
import Derived.Deep.Strs
import Derived.Lib.SmallJoins
import Derived.ChangeSlices
import Derived.ChangeSame
import Derived.Carry
import Derived.SizedLaws
import Derived.ProofKit
import Derived.OpenShut
namespace Go.Proofs.Ytcndfihcjaoifaa
open Go.ChangeShapes Go.WideShapes Go.RowKit Go.Deep

section
variable {H : Type} {enc : TypeId × Value → H} {w : World} {sp : Nat → Bool} {held : Bool}

theorem cellsNd : Try.prog.cellsOf 24 = 6 := by kernel_rfl
theorem cellsIntN : Try.prog.cellsOf 3 = 1 := by kernel_rfl
theorem cellsStrN : Try.prog.cellsOf 9 = 1 := by kernel_rfl
theorem cellsNds : Try.prog.cellsOf 22 = 1 := by kernel_rfl

theorem spot_ofN {W : World} {a : Addr} {v : Value} (h : W.cell? a = some v) : a = ⟨a.block, a.off, none⟩ := by
  obtain ⟨b, off, spot⟩ := a
  have : spot = none := World.cell?_spot h
  subst this
  rfl
theorem add_zeroN (a : Addr) : a.add 0 = a := by simp [Addr.add]

set_option maxRecDepth 100000 in
/-- a tree that came in -/
theorem node_at : ∀ (fuel : Nat) (cs : List Value) (x : DataW H × List MemPlace), DataW.trod enc Try.prog w 0 sp held fuel 24 cs = some x →
    ∃ y : Nd, cs = y.cells ∧ y.In w w.heap.size := by
  intro fuel
  induction fuel using Nat.strongRecOn with
  | _ fuel ih =>
  intro cs x h
  obtain ⟨xs, n, rfl, hx, hl, hlen, hf⟩ := DataW.trod_struct Try.underlying24 h
  rw [cellsNd] at hl
  match cs, hl, xs, hlen with
  | [c0, c1, c2, c3, c4, c5], _, [y0, y1, y2, y3, y4, y5], _ =>
    have g0 : DataW.trod enc Try.prog w 0 sp held n 3 [c0] = some y0 := by
      have this : DataW.trod enc Try.prog w 0 sp held n 3 (([c0, c1, c2, c3, c4, c5].drop 0).take (Try.prog.cellsOf 3)) = some y0 := hf 0 _ rfl
      rw [cellsIntN] at this; exact this
    have g1 : DataW.trod enc Try.prog w 0 sp held n 9 [c1] = some y1 := by
      have this : DataW.trod enc Try.prog w 0 sp held n 9 (([c0, c1, c2, c3, c4, c5].drop 1).take (Try.prog.cellsOf 9)) = some y1 := hf 1 _ rfl
      rw [cellsStrN] at this; exact this
    have g2 : DataW.trod enc Try.prog w 0 sp held n 3 [c2] = some y2 := by
      have this : DataW.trod enc Try.prog w 0 sp held n 3 (([c0, c1, c2, c3, c4, c5].drop 2).take (Try.prog.cellsOf 3)) = some y2 := hf 2 _ rfl
      rw [cellsIntN] at this; exact this
    have g3 : DataW.trod enc Try.prog w 0 sp held n 3 [c3] = some y3 := by
      have this : DataW.trod enc Try.prog w 0 sp held n 3 (([c0, c1, c2, c3, c4, c5].drop 3).take (Try.prog.cellsOf 3)) = some y3 := hf 3 _ rfl
      rw [cellsIntN] at this; exact this
    have g4 : DataW.trod enc Try.prog w 0 sp held n 3 [c4] = some y4 := by
      have this : DataW.trod enc Try.prog w 0 sp held n 3 (([c0, c1, c2, c3, c4, c5].drop 4).take (Try.prog.cellsOf 3)) = some y4 := hf 4 _ rfl
      rw [cellsIntN] at this; exact this
    have g5 : DataW.trod enc Try.prog w 0 sp held n 22 [c5] = some y5 := by
      have this : DataW.trod enc Try.prog w 0 sp held n 22 (([c0, c1, c2, c3, c4, c5].drop 5).take (Try.prog.cellsOf 22)) = some y5 := hf 5 _ rfl
      rw [cellsNds] at this; exact this
    obtain ⟨op, e0, rfl, _⟩ := DataW.trod_int Try.underlying3 g0
    obtain ⟨s, e1, rfl, _⟩ := DataW.trod_string Try.underlying9 g1
    obtain ⟨nn, e2, rfl, _⟩ := DataW.trod_int Try.underlying3 g2
    obtain ⟨f, e3, rfl, _⟩ := DataW.trod_int Try.underlying3 g3
    obtain ⟨t, e4, rfl, _⟩ := DataW.trod_int Try.underlying3 g4
    simp only [List.cons.injEq, and_true] at e0 e1 e2 e3 e4
    subst e0 e1 e2 e3 e4
    rcases DataW.trod_slice Try.underlying22 g5 with ⟨e, _⟩ | ⟨a, len, cap, elems, rest, n', rfl, e, _, _, hlc, hcm, hel, hcells, _, _⟩
    · simp only [List.cons.injEq, and_true] at e
      subst e
      exact ⟨.mk op s nn f t none 0 [], rfl, NdSl.nd ⟨Rd.nil, by simp, by unfold Nd.AllIn; trivial⟩⟩
    · simp only [List.cons.injEq, and_true] at e
      subst e
      have each : ∀ i, i < len → ∃ y : Nd, (∀ j u, y.cells[j]? = some u → w.cell? ((a.add (i * 6)).add j) = some u) ∧ y.In w w.heap.size := fun i hi => by
        have hc := hcells i hi
        rw [List.getElem?_eq_getElem (by omega), cellsNd, Option.bind_eq_some_iff] at hc
        obtain ⟨cs', hc1, hc2⟩ := hc
        obtain ⟨y, rfl, hy⟩ := ih n' (by omega) cs' _ hc2
        obtain ⟨_, _, hat⟩ := World.cells?_some hc1
        refine ⟨y, fun j u hu => ?_, hy⟩
        have hj := (List.getElem?_eq_some_iff.1 hu).1
        rw [Nd.cells_length] at hj
        rw [hat j hj, hu]
      obtain ⟨X, hX⟩ := choose_lt each
      have hxl : ((List.range len).map X).length = len := by simp
      refine ⟨.mk op s nn f t (some a) cap ((List.range len).map X), by simp [Nd.cells], NdSl.nd ⟨?_, ?_, ?_⟩⟩
      · intro hpos
        rw [cellsN_length, hxl] at hpos
        have k0 := (hX 0 (by omega)).1 0 (.int .i64 (X 0).op) (by cases X 0; rfl)
        rw [Nat.zero_mul, add_zeroN, add_zeroN] at k0
        have hsp := spot_ofN k0
        have hb : a.block < w.heap.size := World.block_lt_of_cell? _ _ k0
        refine ⟨a.block, a.off, by rw [← hsp], hb, fun j u hj => ?_⟩
        have hjl := (List.getElem?_eq_some_iff.1 hj).1
        rw [cellsN_length, hxl] at hjl
        obtain ⟨q, r, rfl, hr⟩ : ∃ q r, j = q * 6 + r ∧ r < 6 := ⟨j / 6, j % 6, by omega, Nat.mod_lt _ (by omega)⟩
        have hq : q < len := by omega
        rw [cellsN_get _ q (by rw [hxl]; exact hq) r hr] at hj
        have hg : ((List.range len).map X)[q]'(by rw [hxl]; exact hq) = X q := by simp
        rw [hg] at hj
        have := (hX q hq).1 r u hj
        rw [hsp] at this
        simp only [Addr.add_lit] at this
        rw [← Nat.add_assoc]
        exact this
      · rw [hxl]
        unfold maxLen at hcm
        omega
      · refine Nd.AllIn.of fun x hx => ?_
        obtain ⟨i, hi, rfl⟩ := List.mem_map.1 hx
        exact (hX i (by simpa using hi)).2

/-- a tree among a law's arguments -/
theorem open_node {r : Reach} {b0 : Nat} {v : Value} {d : DataW H} {p : List MemPlace} (hv : Value.okWide Try.prog w r b0 24 v) (h : DataW.Trod enc Try.prog w 0 sp held 24 v d p) :
    ∃ y : Nd, v = y.val ∧ y.In w w.heap.size := by
  obtain ⟨cs, rfl, hsz⟩ := okWide_struct Try.underlying24 hv
  obtain ⟨fuel, hf⟩ := h
  obtain ⟨y, hy, hin⟩ := node_at fuel _ _ hf
  refine ⟨y, ?_, hin⟩
  cases y
  simp only [Value.cells, Nd.cells] at hy
  obtain ⟨l⟩ := cs
  simp only at hy
  subst hy
  rfl
end

/-- a list of arguments reads as it did, if nothing below the heap's old end has turned -/
theorem trodAll_staysN {H : Type} {enc : TypeId × Value → H} {P : Program} (hl : laidOutB P = true) {W W' : World} (hb : Below W.heap.size W W') {sp : Nat → Bool} :
    ∀ {ts : List TypeId} {vs : List Value} {ds : List (DataW H)} {ps : List MemPlace}, (∀ t ∈ ts, P.readableRec t = true ∧ t < P.types.size) → DataW.TrodAll enc P W 0 (fun _ => true) true ts vs ds ps →
      (∀ x ∈ ps, x.block < W.heap.size) → (∀ x ∈ ps, sp x.block = true) → DataW.TrodAll enc P W' 0 sp true ts vs ds ps
  | [], _, _, _, _, h, _, _ => by
    obtain ⟨rfl, rfl, rfl⟩ := trodAll_nil h
    exact trodAll_mk0
  | t :: ts, _, _, _, ht, h, hlt, hsp => by
    obtain ⟨v, vs1, d, ds1, a, b, rfl, rfl, rfl, h1, h2⟩ := trodAll_cons h
    obtain ⟨t1, t2⟩ := ht t (by simp)
    exact trodAll_cons_mk (WideElems.Trod_stays hl t1 t2 h1 (fun x hx => hb.same (hlt x (List.mem_append_left _ hx))) (fun x hx => hsp x (List.mem_append_left _ hx)))
      (trodAll_staysN hl hb (fun t' ht' => ht t' (by simp [ht'])) h2 (fun x hx => hlt x (List.mem_append_right _ hx)) (fun x hx => hsp x (List.mem_append_right _ hx)))

end Go.Proofs.Ytcndfihcjaoifaa
