/- What opens a law's list of tokens, with the bounds of the first form. -/
import Derived.Test.YtjdpkhjoecfhlaaGreatDoorTokArgs
namespace Go.Proofs.YtjdpkhjoecfhlaaGreatDoor
open Go.ChangeShapes Go.WideShapes Go.RowKit Go.Deep

section
variable {H : Type} {enc : TypeId × Value → H} {w : World} {sp : Nat → Bool} {held : Bool}

theorem bytesTkA : Tryz.prog.bytesOf 29 = 48 := by kernel_rfl

theorem weightsAll_inZ {H : Type} {P : Program} {e : TypeId} : ∀ {l : List (DataW H)} {d : DataW H}, d ∈ l → ∀ n ∈ d.weights P e, n ∈ DataW.weightsAll P e l
  | x :: l, d, h, n, hn => by
    rw [DataW.weightsAll, List.mem_append]
    rcases List.mem_cons.1 h with rfl | h
    · exact .inl hn
    · exact .inr (weightsAll_inZ h n hn)

set_option maxRecDepth 100000 in
theorem datZ_weights (x : Tz) : x.x.size ∈ DataW.weights Tryz.prog 29 (datZ x : DataW H) := by
  simp [datZ, DataW.weights, Tryz.underlying29, DataW.weightsEach]

set_option maxRecDepth 100000 in
/-- a list of tokens that came in -/
theorem open_tokensW {r : Reach} {b0 : Nat} {v : Value} {d : DataW H} {p : List MemPlace} (hv : Value.okWide Tryz.prog w r b0 22 v) (h : DataW.Trod enc Tryz.prog w 0 (fun _ => true) held 22 v d p) (hwt : ∀ n ∈ d.weights Tryz.prog 22, n ≤ reachBytes) :
    ∃ (A : Option Addr) (l : List Tz) (c : Nat), v = .slice A l.length c ∧ ZRd w w.heap.size A l ∧ l.length ≤ c ∧ c ≤ 140737488355328 ∧ ∀ t ∈ l, t.x.size ≤ 140737488355328 := by
  obtain ⟨va, vn, vc, rfl⟩ := okWide_slice Tryz.underlying22 hv
  obtain ⟨fuel, h⟩ := h
  rcases open_slice Tryz.underlying22 h with ⟨e, e2⟩ | ⟨a, len, cap, m, n, D, Pl, e, _, hlc, hcm, hm, hx, hel⟩
  · simp [Value.cells] at e
    obtain ⟨rfl, rfl, rfl⟩ := e
    exact ⟨none, [], 0, rfl, Rd.nil, Nat.le_refl _, by omega, fun x hx => by simp at hx⟩
  · simp [Value.cells] at e
    obtain ⟨rfl, rfl, rfl⟩ := e
    obtain rfl : m = vc := by simpa using hm
    clear hm
    have each : ∀ i, i < m → ∃ e : Tz, (w.cell? ((a.add (i * 4)).add 0) = some (.int .i64 e.k) ∧ w.cell? ((a.add (i * 4)).add 1) = some (.string e.b) ∧ w.cell? ((a.add (i * 4)).add 2) = some (.string e.x) ∧ w.cell? ((a.add (i * 4)).add 3) = some (.int .i64 e.a)) ∧ D i = datZ e := fun i hi => by
      obtain ⟨cs', hc, ht⟩ := hel i hi
      rw [cellsTkA] at hc
      obtain ⟨e, rfl, hd⟩ := token_at ht
      obtain ⟨_, _, hat⟩ := World.cells?_some hc
      exact ⟨e, ⟨hat 0 (by omega), hat 1 (by omega), hat 2 (by omega), hat 3 (by omega)⟩, hd⟩
    obtain ⟨X, hX⟩ := choose_lt each
    simp only [Prod.mk.injEq] at hx
    obtain ⟨rfl, rfl⟩ := hx
    have hw : ∀ n ∈ DataW.weights Tryz.prog 22 (.slice ((List.range vn).map D) ((List.range (m - vn)).map fun j => D (vn + j)) : DataW H), n ≤ reachBytes := hwt
    simp only [DataW.weights, Tryz.underlying22, List.length_map, List.length_range, bytesTkA, List.mem_cons, List.mem_append] at hw
    have hcap := hw _ (.inl rfl)
    unfold reachBytes at hcap hw
    have hlen : ((List.range vn).map X).length = vn := by simp
    refine ⟨some a, (List.range vn).map X, m, by rw [hlen], ?_, by rw [hlen]; exact hlc, by omega, fun x hx => ?_⟩
    · by_cases h0 : 0 < vn
      · have k0 := (hX 0 (by omega)).1.1
        rw [Nat.zero_mul, add_zeroZ, add_zeroZ] at k0
        have hsp := spot_ofZ k0
        have hb : a.block < w.heap.size := World.block_lt_of_cell? _ _ k0
        intro hpos
        refine ⟨a.block, a.off, by rw [← hsp], hb, fun j u hj => ?_⟩
        have hj4 : j < (cellsZ ((List.range vn).map X)).length := (List.getElem?_eq_some_iff.1 hj).1
        rw [cellsZ_length, hlen] at hj4
        obtain ⟨q, rr, hq, hr⟩ : ∃ q rr, j = q * 4 + rr ∧ rr < 4 := ⟨j / 4, j % 4, by omega, Nat.mod_lt _ (by omega)⟩
        have hqn : q < vn := by omega
        obtain ⟨g0, g1, g2, g3⟩ := cellsZ_get ((List.range vn).map X) q (by rw [hlen]; exact hqn)
        have hg : ((List.range vn).map X)[q]'(by rw [hlen]; exact hqn) = X q := by simp
        rw [hg] at g0 g1 g2 g3
        obtain ⟨c0, c1, c2, c3⟩ := (hX q (by omega)).1
        rw [hsp] at c0 c1 c2 c3
        simp only [Addr.add_lit, Nat.add_zero] at c0 c1 c2 c3
        subst hq
        match rr, hr with
        | 0, _ => rw [Nat.add_zero] at hj ⊢; rw [g0] at hj; rw [← hj]; exact c0
        | 1, _ => rw [g1] at hj; rw [← hj, ← Nat.add_assoc]; exact c1
        | 2, _ => rw [g2] at hj; rw [← hj, ← Nat.add_assoc]; exact c2
        | 3, _ => rw [g3] at hj; rw [← hj, ← Nat.add_assoc]; exact c3
      · have : vn = 0 := by omega
        subst this
        exact fun hl => by simp [cellsZ] at hl
    · obtain ⟨i, hi, rfl⟩ := List.mem_map.1 hx
      have hi' := List.mem_range.1 hi
      have := hw _ (.inr (.inl (weightsAll_inZ (List.mem_map.2 ⟨i, hi, (hX i (by omega)).2⟩) _ (datZ_weights (X i)))))
      omega
end

end Go.Proofs.YtjdpkhjoecfhlaaGreatDoor
