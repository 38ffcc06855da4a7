/- What opens a law's list of tokens, with the bound of the second form, and what shuts it behind the call. -/
import Derived.Test.YtjdpkhjoecfhlaaGreatDoorTz
import Derived.Deep.Slices
import Derived.Deep.Strs
import Derived.Lib.SmallJoins
import Derived.ChangeSlices
import Derived.ChangeSame
import Derived.Carry
import Derived.SizedLaws
import Derived.ProofKit
import Derived.OpenShut
namespace Go.Proofs.YtjdpkhjoecfhlaaGreatDoor
open Go.ChangeShapes Go.WideShapes Go.RowKit Go.Deep

/-- a list of arguments reads as it did, if nothing below the heap's old end has turned -/
theorem trodAll_staysZ {H : Type} {enc : TypeId × Value → H} {P : Program} (hl : laidOutB P = true) {W W' : World} (hb : Below W.heap.size W W') {sp : Nat → Bool} :
    ∀ {ts : List TypeId} {vs : List Value} {ds : List (DataW H)} {ps : List MemPlace}, (∀ t ∈ ts, P.readableRec t = true ∧ t < P.types.size) → DataW.TrodAll enc P W 0 (fun _ => true) true ts vs ds ps →
      (∀ x ∈ ps, x.block < W.heap.size) → (∀ x ∈ ps, sp x.block = true) → DataW.TrodAll enc P W' 0 sp true ts vs ds ps
  | [], _, _, _, _, h, _, _ => by
    obtain ⟨rfl, rfl, rfl⟩ := trodAll_nil h
    exact trodAll_mk0
  | t :: ts, _, _, _, ht, h, hlt, hsp => by
    obtain ⟨v, vs1, d, ds1, a, b, rfl, rfl, rfl, h1, h2⟩ := trodAll_cons h
    obtain ⟨t1, t2⟩ := ht t (by simp)
    exact trodAll_cons_mk (WideElems.Trod_stays hl t1 t2 h1 (fun x hx => hb.same (hlt x (List.mem_append_left _ hx))) (fun x hx => hsp x (List.mem_append_left _ hx)))
      (trodAll_staysZ hl hb (fun t' ht' => ht t' (by simp [ht'])) h2 (fun x hx => hlt x (List.mem_append_right _ hx)) (fun x hx => hsp x (List.mem_append_right _ hx)))

section
variable {H : Type} {enc : TypeId × Value → H} {w : World} {sp : Nat → Bool} {held : Bool}

theorem cellsTkA : Tryz.prog.cellsOf 29 = 4 := by kernel_rfl
theorem cellsIntZ : Tryz.prog.cellsOf 3 = 1 := by kernel_rfl
theorem cellsStrZ : Tryz.prog.cellsOf 9 = 1 := by kernel_rfl

/-- what a token reads as -/
def datZ (x : Tz) : DataW H := .agg [.lit (.int .i64 x.k), .lit (.string x.b.data.toList), .lit (.string x.x.data.toList), .lit (.int .i64 x.a)]

set_option maxRecDepth 100000 in
theorem token_at {fuel : Nat} {cs : List Value} {x : DataW H × List MemPlace} (h : DataW.trod enc Tryz.prog w 0 sp held fuel 29 cs = some x) :
    ∃ e : Tz, cs = e.cells ∧ x.1 = datZ e := by
  obtain ⟨y0, y1, y2, y3, n, rfl, hl, h0, h1, h2, h3⟩ := Go.Joins.trod_struct4 Tryz.underlying29 h
  rw [cellsTkA] at hl
  match cs, hl with
  | [c0, c1, c2, c3], _ =>
    have g0 : DataW.trod enc Tryz.prog w 0 sp held n 3 [c0] = some y0 := by rw [← h0]; simp only [cellsIntZ]; rfl
    have g1 : DataW.trod enc Tryz.prog w 0 sp held n 9 [c1] = some y1 := by rw [← h1]; simp only [cellsStrZ]; rfl
    have g2 : DataW.trod enc Tryz.prog w 0 sp held n 9 [c2] = some y2 := by rw [← h2]; simp only [cellsStrZ]; rfl
    have g3 : DataW.trod enc Tryz.prog w 0 sp held n 3 [c3] = some y3 := by rw [← h3]; simp only [cellsIntZ]; rfl
    obtain ⟨k, e0, rfl, w0⟩ := DataW.trod_int Tryz.underlying3 g0
    obtain ⟨b, e1, rfl, w1⟩ := DataW.trod_string Tryz.underlying9 g1
    obtain ⟨x, e2, rfl, w2⟩ := DataW.trod_string Tryz.underlying9 g2
    obtain ⟨a, e3, rfl, w3⟩ := DataW.trod_int Tryz.underlying3 g3
    simp only [List.cons.injEq, and_true] at e0 e1 e2 e3
    subst e0 e1 e2 e3
    exact ⟨⟨k, b, x, a⟩, rfl, rfl⟩

theorem bulk_toks : ∀ (l : List Tz), sumZ l + l.length ≤ Rows.uptoBulkAll (l.map (datZ (H := H)))
  | [] => by simp [sumZ]
  | t :: l => by
    have ih := bulk_toks l
    simp only [List.map_cons, Rows.uptoBulkAll, datZ, Rows.uptoBulk, sumZ, List.length_cons] at ih ⊢
    simp only [Array.length_toList, ByteArray.size_data] at ih ⊢
    omega

theorem spot_ofZ {W : World} {a : Addr} {v : Value} (h : W.cell? a = some v) : a = ⟨a.block, a.off, none⟩ := by
  obtain ⟨b, off, spot⟩ := a
  have : spot = none := World.cell?_spot h
  subst this
  rfl
theorem add_zeroZ (a : Addr) : a.add 0 = a := by simp [Addr.add]

set_option maxRecDepth 100000 in
/-- a list of tokens that came in -/
theorem open_tokens {r : Reach} {b0 : Nat} {v : Value} {d : DataW H} {p : List MemPlace} (hv : Value.okWide Tryz.prog w r b0 22 v) (h : DataW.Trod enc Tryz.prog w 0 (fun _ => true) held 22 v d p) :
    ∃ (A : Option Addr) (l : List Tz) (c : Nat), v = .slice A l.length c ∧ ZRd w w.heap.size A l ∧ sumZ l + l.length ≤ Rows.uptoBulk d := by
  obtain ⟨va, vn, vc, rfl⟩ := okWide_slice Tryz.underlying22 hv
  obtain ⟨fuel, h⟩ := h
  rcases open_slice Tryz.underlying22 h with ⟨e, e2⟩ | ⟨a, len, cap, m, n, D, Pl, e, _, hlc, hcm, hm, hx, hel⟩
  · simp [Value.cells] at e
    obtain ⟨rfl, rfl, rfl⟩ := e
    exact ⟨none, [], 0, rfl, Rd.nil, by simp [sumZ]⟩
  · simp [Value.cells] at e
    obtain ⟨rfl, rfl, rfl⟩ := e
    obtain rfl : m = vc := by simpa using hm
    clear hm
    have each : ∀ i, i < m → ∃ e : Tz, (w.cell? ((a.add (i * 4)).add 0) = some (.int .i64 e.k) ∧ w.cell? ((a.add (i * 4)).add 1) = some (.string e.b) ∧ w.cell? ((a.add (i * 4)).add 2) = some (.string e.x) ∧ w.cell? ((a.add (i * 4)).add 3) = some (.int .i64 e.a)) ∧ D i = datZ e := fun i hi => by
      obtain ⟨cs', hc, ht⟩ := hel i hi
      rw [cellsTkA] at hc
      obtain ⟨e, rfl, hd⟩ := token_at ht
      obtain ⟨_, _, hat⟩ := World.cells?_some hc
      exact ⟨e, ⟨hat 0 (by omega), hat 1 (by omega), hat 2 (by omega), hat 3 (by omega)⟩, hd⟩
    obtain ⟨X, hX⟩ := choose_lt each
    simp only [Prod.mk.injEq] at hx
    obtain ⟨rfl, rfl⟩ := hx
    have hlen : ((List.range vn).map X).length = vn := by simp
    refine ⟨some a, (List.range vn).map X, m, by rw [hlen], ?_, ?_⟩
    · by_cases h0 : 0 < vn
      · have k0 := (hX 0 (by omega)).1.1
        rw [Nat.zero_mul, add_zeroZ, add_zeroZ] at k0
        have hsp := spot_ofZ k0
        have hb : a.block < w.heap.size := World.block_lt_of_cell? _ _ k0
        intro hpos
        refine ⟨a.block, a.off, by rw [← hsp], hb, fun j u hj => ?_⟩
        have hj4 : j < (cellsZ ((List.range vn).map X)).length := (List.getElem?_eq_some_iff.1 hj).1
        rw [cellsZ_length, hlen] at hj4
        obtain ⟨q, rr, hq, hr⟩ : ∃ q rr, j = q * 4 + rr ∧ rr < 4 := ⟨j / 4, j % 4, by omega, Nat.mod_lt _ (by omega)⟩
        have hqn : q < vn := by omega
        obtain ⟨g0, g1, g2, g3⟩ := cellsZ_get ((List.range vn).map X) q (by rw [hlen]; exact hqn)
        have hg : ((List.range vn).map X)[q]'(by rw [hlen]; exact hqn) = X q := by simp
        rw [hg] at g0 g1 g2 g3
        obtain ⟨c0, c1, c2, c3⟩ := (hX q (by omega)).1
        rw [hsp] at c0 c1 c2 c3
        simp only [Addr.add_lit, Nat.add_zero] at c0 c1 c2 c3
        subst hq
        match rr, hr with
        | 0, _ => rw [Nat.add_zero] at hj ⊢; rw [g0] at hj; rw [← hj]; exact c0
        | 1, _ => rw [g1] at hj; rw [← hj, ← Nat.add_assoc]; exact c1
        | 2, _ => rw [g2] at hj; rw [← hj, ← Nat.add_assoc]; exact c2
        | 3, _ => rw [g3] at hj; rw [← hj, ← Nat.add_assoc]; exact c3
      · have : vn = 0 := by omega
        subst this
        exact fun hl => by simp [cellsZ] at hl
    · have he : (List.range vn).map D = ((List.range vn).map X).map (datZ (H := H)) := by
        rw [List.map_map]
        exact List.map_congr_left fun i hi => (hX i (by have := List.mem_range.1 hi; omega)).2
      have hb := bulk_toks (H := H) ((List.range vn).map X)
      rw [← he] at hb
      simp only [Rows.uptoBulk]
      omega
end

end Go.Proofs.YtjdpkhjoecfhlaaGreatDoor
