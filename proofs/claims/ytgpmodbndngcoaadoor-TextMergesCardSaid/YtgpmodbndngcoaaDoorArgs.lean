/- What opens a law's arguments that lie in memory, and what shuts them behind the call. -/
import Derived.Test.YtgpmodbndngcoaaDoorEd
import Derived.Deep.Slices
import Derived.Deep.Strs
import Derived.ChangeSlices
import Derived.ChangeSame
import Derived.Carry
import Derived.SizedLaws
import Derived.ProofKit
import Derived.OpenShut
namespace Go.Proofs.YtgpmodbndngcoaaDoor
open Go.ChangeShapes Go.WideShapes Go.RowKit Go.Deep

/-- a list of arguments reads as it did, if nothing below the heap's old end has turned -/
theorem trodAll_stays {H : Type} {enc : TypeId × Value → H} {P : Program} (hl : laidOutB P = true) {W W' : World} (hb : Below W.heap.size W W') {sp : Nat → Bool} :
    ∀ {ts : List TypeId} {vs : List Value} {ds : List (DataW H)} {ps : List MemPlace}, (∀ t ∈ ts, P.readableRec t = true ∧ t < P.types.size) → DataW.TrodAll enc P W 0 (fun _ => true) true ts vs ds ps →
      (∀ x ∈ ps, x.block < W.heap.size) → (∀ x ∈ ps, sp x.block = true) → DataW.TrodAll enc P W' 0 sp true ts vs ds ps
  | [], _, _, _, _, h, _, _ => by
    obtain ⟨rfl, rfl, rfl⟩ := trodAll_nil h
    exact trodAll_mk0
  | t :: ts, _, _, _, ht, h, hlt, hsp => by
    obtain ⟨v, vs1, d, ds1, a, b, rfl, rfl, rfl, h1, h2⟩ := trodAll_cons h
    obtain ⟨t1, t2⟩ := ht t (by simp)
    exact trodAll_cons_mk (WideElems.Trod_stays hl t1 t2 h1 (fun x hx => hb.same (hlt x (List.mem_append_left _ hx))) (fun x hx => hsp x (List.mem_append_left _ hx)))
      (trodAll_stays hl hb (fun t' ht' => ht t' (by simp [ht'])) h2 (fun x hx => hlt x (List.mem_append_right _ hx)) (fun x hx => hsp x (List.mem_append_right _ hx)))

theorem weightsAll_in {H : Type} {P : Program} {e : TypeId} : ∀ {l : List (DataW H)} {d : DataW H}, d ∈ l → ∀ n ∈ d.weights P e, n ∈ DataW.weightsAll P e l
  | x :: l, d, h, n, hn => by
    rw [DataW.weightsAll, List.mem_append]
    rcases List.mem_cons.1 h with rfl | h
    · exact .inl hn
    · exact .inr (weightsAll_in h n hn)

section
variable {H : Type} {enc : TypeId × Value → H} {w : World} {sp : Nat → Bool} {held : Bool}

theorem infoEdA : (Tryd.prog.info? 46).map (fun i => (i.size, i.bytes)) = some (3, 32) := by kernel_rfl
theorem cellsEdA : Tryd.prog.cellsOf 46 = 3 := by kernel_rfl
theorem bytesEdA : Tryd.prog.bytesOf 46 = 32 := by kernel_rfl
theorem cellsIntA : Tryd.prog.cellsOf 3 = 1 := by kernel_rfl
theorem cellsStrA : Tryd.prog.cellsOf 9 = 1 := by kernel_rfl
theorem cellsU8A : Tryd.prog.cellsOf 5 = 1 := by kernel_rfl
theorem bytesU8A : Tryd.prog.bytesOf 5 = 1 := by kernel_rfl

/-- what an edit reads as -/
def datE (x : Ed) : DataW H := .agg [.lit (.int .i64 x.f), .lit (.int .i64 x.t), .lit (.string x.s.data.toList)]

set_option maxRecDepth 100000 in
theorem edit_at {fuel : Nat} {cs : List Value} {x : DataW H × List MemPlace} (h : DataW.trod enc Tryd.prog w 0 sp held fuel 46 cs = some x) :
    ∃ e : Ed, cs = e.cells ∧ x.1 = datE e ∧ (Lit.int .i64 e.f).wf = true ∧ (Lit.int .i64 e.t).wf = true := by
  obtain ⟨y0, y1, y2, n, rfl, hl, h0, h1, h2⟩ := trod_struct3 Tryd.underlying46 h
  rw [cellsEdA] at hl
  match cs, hl with
  | [c0, c1, c2], _ =>
    have g0 : DataW.trod enc Tryd.prog w 0 sp held n 3 [c0] = some y0 := by rw [← h0]; simp only [cellsIntA]; rfl
    have g1 : DataW.trod enc Tryd.prog w 0 sp held n 3 [c1] = some y1 := by rw [← h1]; simp only [cellsIntA]; rfl
    have g2 : DataW.trod enc Tryd.prog w 0 sp held n 9 [c2] = some y2 := by rw [← h2]; simp only [cellsStrA]; rfl
    obtain ⟨f, e0, rfl, w0⟩ := DataW.trod_int Tryd.underlying3 g0
    obtain ⟨t, e1, rfl, w1⟩ := DataW.trod_int Tryd.underlying3 g1
    obtain ⟨s, e2, rfl, w2⟩ := DataW.trod_string Tryd.underlying9 g2
    simp only [List.cons.injEq, and_true] at e0 e1 e2
    subst e0 e1 e2
    exact ⟨⟨f, t, s⟩, rfl, rfl, w0, w1⟩

theorem datE_weights (x : Ed) : x.s.size ∈ (datE (H := H) x).weights Tryd.prog 46 := by
  simp [datE, DataW.weights, Tryd.underlying46, DataW.weightsEach]

theorem spot_of {W : World} {a : Addr} {v : Value} (h : W.cell? a = some v) : a = ⟨a.block, a.off, none⟩ := by
  obtain ⟨b, off, spot⟩ := a
  have : spot = none := World.cell?_spot h
  subst this
  rfl
theorem add_zero' (a : Addr) : a.add 0 = a := by simp [Addr.add]

set_option maxRecDepth 100000 in
/-- a list of edits that came in -/
theorem open_edits {r : Reach} {b0 : Nat} {v : Value} {d : DataW H} {p : List MemPlace} (hv : Value.okWide Tryd.prog w r b0 30 v) (h : DataW.Trod enc Tryd.prog w 0 (fun _ => true) held 30 v d p) (hwt : ∀ n ∈ d.weights Tryd.prog 30, n ≤ reachBytes) :
    ∃ (A : Option Addr) (l : List Ed) (c : Nat), v = .slice A l.length c ∧ (A = none → l = [] ∧ c = 0) ∧ l.length ≤ c ∧ c ≤ maxLen ∧ ESl w w.heap.size A l ∧ c * 32 ≤ 140737488351232 ∧ (∀ x ∈ l, x.s.size ≤ 140737488351232) := by
  obtain ⟨va, vn, vc, rfl⟩ := okWide_slice Tryd.underlying30 hv
  obtain ⟨fuel, h⟩ := h
  rcases open_slice Tryd.underlying30 h with ⟨e, e2⟩ | ⟨a, len, cap, m, n, D, Pl, e, _, hlc, hcm, hm, hx, hel⟩
  · simp [Value.cells] at e
    obtain ⟨rfl, rfl, rfl⟩ := e
    exact ⟨none, [], 0, rfl, fun _ => ⟨rfl, rfl⟩, Nat.le_refl _, by unfold maxLen; omega, Rd.nil, by omega, fun x hx => by simp at hx⟩
  · simp [Value.cells] at e
    obtain ⟨rfl, rfl, rfl⟩ := e
    obtain rfl : m = vc := by simpa using hm
    clear hm
    have each : ∀ i, i < m → ∃ e : Ed, (w.cell? ((a.add (i * 3)).add 0) = some (.int .i64 e.f) ∧ w.cell? ((a.add (i * 3)).add 1) = some (.int .i64 e.t) ∧ w.cell? ((a.add (i * 3)).add 2) = some (.string e.s)) ∧ D i = datE e := fun i hi => by
      obtain ⟨cs', hc, ht⟩ := hel i hi
      rw [cellsEdA] at hc
      obtain ⟨e, rfl, hd, _, _⟩ := edit_at ht
      obtain ⟨_, _, hat⟩ := World.cells?_some hc
      exact ⟨e, ⟨hat 0 (by omega), hat 1 (by omega), hat 2 (by omega)⟩, hd⟩
    obtain ⟨X, hX⟩ := choose_lt each
    simp only [Prod.mk.injEq] at hx
    obtain ⟨rfl, rfl⟩ := hx
    have hw : ∀ n ∈ DataW.weights Tryd.prog 30 (.slice ((List.range vn).map D) ((List.range (m - vn)).map fun j => D (vn + j)) : DataW H), n ≤ reachBytes := hwt
    simp only [DataW.weights, Tryd.underlying30, List.length_map, List.length_range, bytesEdA, List.mem_cons, List.mem_append] at hw
    have hcap := hw _ (.inl rfl)
    unfold reachBytes at hcap hw
    have hlen : ((List.range vn).map X).length = vn := by simp
    refine ⟨some a, (List.range vn).map X, m, by rw [hlen], (fun e => by cases e), by rw [hlen]; exact hlc, hcm, ?_, by omega, fun x hx => ?_⟩
    · by_cases h0 : 0 < vn
      · have k0 := (hX 0 (by omega)).1.1
        rw [Nat.zero_mul, add_zero', add_zero'] at k0
        have hsp := spot_of k0
        have hb : a.block < w.heap.size := World.block_lt_of_cell? _ _ k0
        rw [hsp]
        refine ESl.mk hb fun i hi => ?_
        have hi' : i < vn := by rw [hlen] at hi; exact hi
        obtain ⟨c0, c1, c2⟩ := (hX i (by omega)).1
        have hg : ((List.range vn).map X)[i] = X i := by simp
        rw [hg]
        rw [hsp] at c0 c1 c2
        simp only [Addr.add_lit, Nat.add_zero] at c0 c1 c2
        exact ⟨c0, c1, c2⟩
      · have : vn = 0 := by omega
        subst this
        exact fun hl => by simp [cellsE] at hl
    · obtain ⟨i, hi, rfl⟩ := List.mem_map.1 hx
      have hi' := List.mem_range.1 hi
      exact hw _ (.inr (.inl (weightsAll_in (List.mem_map.2 ⟨i, hi, (hX i (by omega)).2⟩) _ (datE_weights (X i)))))

set_option maxRecDepth 100000 in
/-- a list of bytes that came in -/
theorem open_bytes {r : Reach} {b0 : Nat} {v : Value} {d : DataW H} {p : List MemPlace} (hv : Value.okWide Tryd.prog w r b0 44 v) (h : DataW.Trod enc Tryd.prog w 0 (fun _ => true) held 44 v d p) (hwt : ∀ n ∈ d.weights Tryd.prog 44, n ≤ reachBytes) :
    ∃ (A : Option Addr) (l : List Nat) (c : Nat), v = .slice A l.length c ∧ (A = none → l = [] ∧ c = 0) ∧ l.length ≤ c ∧ c ≤ 140737488351232 ∧ Rd w w.heap.size A (l.map fun n : Nat => Value.int .u8 n) ∧ (∀ n ∈ l, n < 256) := by
  obtain ⟨va, vn, vc, rfl⟩ := okWide_slice Tryd.underlying44 hv
  obtain ⟨fuel, h⟩ := h
  rcases open_ints Tryd.underlying44 Tryd.underlying5 cellsU8A h with ⟨e, e2⟩ | ⟨a, len, cap, zs, e, _, hlc, hcm, hz, hx, hel, hwf⟩
  · simp [Value.cells] at e
    obtain ⟨rfl, rfl, rfl⟩ := e
    exact ⟨none, [], 0, rfl, fun _ => ⟨rfl, rfl⟩, Nat.le_refl _, by omega, Rd.nil, fun x hx => by simp at hx⟩
  · simp [Value.cells] at e
    obtain ⟨rfl, rfl, rfl⟩ := e
    simp only [if_true] at hz
    simp only [Prod.mk.injEq] at hx
    obtain ⟨rfl, rfl⟩ := hx
    have hw : ∀ n ∈ DataW.weights Tryd.prog 44 (.slice (lits .u8 (zs.take vn)) (lits .u8 (zs.drop vn)) : DataW H), n ≤ reachBytes := hwt
    simp only [DataW.weights, Tryd.underlying44, lits, List.length_map, List.length_take, List.length_drop, bytesU8A, List.mem_cons, List.mem_append] at hw
    have hcap := hw _ (.inl rfl)
    unfold reachBytes at hcap
    have hval : ∀ n ∈ zs, 0 ≤ n ∧ n < 256 := fun n hn => by
      have := hwf n hn
      simp only [Lit.wf, Bool.and_eq_true, decide_eq_true_eq] at this
      have h1 : IntKind.u8.min = 0 := rfl
      have h2 : IntKind.u8.max = 255 := rfl
      omega
    have hlen : ((zs.take vn).map Int.toNat).length = vn := by rw [List.length_map, List.length_take]; omega
    have hget : ∀ i (hi : i < vn), ((zs.take vn).map Int.toNat)[i]? = some (zs.getD i 0).toNat ∧ ((zs.getD i 0).toNat : Int) = zs.getD i 0 := fun i hi => by
      have hi2 : i < zs.length := by omega
      have e : zs.getD i 0 = zs[i] := by simp [List.getD, hi2]
      rw [e]
      have := hval _ (List.getElem_mem hi2)
      refine ⟨?_, by omega⟩
      rw [List.getElem?_map, List.getElem?_take, if_pos hi, List.getElem?_eq_getElem hi2]; rfl
    refine ⟨some a, (zs.take vn).map Int.toNat, vc, by rw [hlen], (fun e => by cases e), by rw [hlen]; exact hlc, by omega, fun h0 => ?_, fun n hn => ?_⟩
    · rw [List.length_map, hlen] at h0
      have c0 := hel 0 (by omega)
      rw [add_zero'] at c0
      have hsp := spot_of c0
      have hb : a.block < w.heap.size := World.block_lt_of_cell? _ _ c0
      refine ⟨a.block, a.off, by rw [← hsp], hb, fun j u hu => ?_⟩
      rw [List.getElem?_map] at hu
      have hj : j < vn := by
        have := (List.getElem?_eq_some_iff.1 (Option.map_eq_some_iff.1 hu).choose_spec.1).1
        rw [hlen] at this
        exact this
      rw [(hget j hj).1] at hu
      simp only [Option.map_some, Option.some.injEq] at hu
      subst hu
      rw [(hget j hj).2]
      have := hel j (by omega)
      rw [hsp] at this
      simpa only [Addr.add_lit] using this
    · obtain ⟨z, hz', rfl⟩ := List.mem_map.1 hn
      have := hval z (List.mem_of_mem_take hz')
      omega

end
end Go.Proofs.YtgpmodbndngcoaaDoor
