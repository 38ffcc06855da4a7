/- tree.Plain gives a tree without parentheses and places, in new memory. -/
import Derived.Test.YtcndfihcjaoifaaPlN
import Derived.Deep.DeepCutAuto
import Derived.Deep.RegionHeld3
import Derived.StillTailTactics
import Derived.Lib.SmallJoins

namespace Go.Proofs.Ytcndfihcjaoifaa
open Go.RowKit Go.Maps

/-- what Plain gives -/
def PlainQ (k : Nat) (pt : Tr) (xc : Nat) (w : World) (e : Ending) (w' : World) : Prop :=
  ∃ y : Nd, e = .returned y.val ∧ y.er = pt ∧ y.In w' w'.heap.size ∧ y.Ge w.heap.size ∧ deepB k y.l = false ∧ y.cnt ≤ xc ∧ Below w.heap.size w w'
def PlainP (k : Nat) (x : Nd) : World → Ending → World → Prop := PlainQ k (plainT (k + 1) x.er) x.cnt

/-- the state of Plain: its node, its result's cell, the new list of parts: those that are done, and those to come -/
def PlainI (w W : World) (S1 g c : Nat) (op : Int) (s : ByteArray) (n : Int) (ys zs : List Nd) : Prop :=
  NBlk W w.heap.size (.mk op s n 0 0 (some ⟨g, 0, none⟩) c (ys ++ zs)) ∧ NBlk W (w.heap.size + 1) zeroNd ∧ W.ownsRow (w.heap.size + 2) 24 6 (.slice (some ⟨g, 0, none⟩) (ys ++ zs).length c) (ys ++ zs).length (cellsN (ys ++ zs)) ∧
    (∀ y ∈ ys, y.In W W.heap.size ∧ y.Ge S1) ∧ Below w.heap.size w W ∧ w.heap.size + 2 ≤ g ∧ g < S1 ∧ S1 ≤ W.heap.size

theorem own_belowP {w w' : World} {b n : Nat} {e : TypeId} {k : Nat} {v : Value} {xs : List Value} (h : w.ownsRow b e k v n xs) (hb : Below w.heap.size w w') : w'.ownsRow b e k v n xs :=
  h.kept (grownBy_below hb none) (by cases v.ownBlock <;> simp)

theorem PlainI.after {w W W' : World} {S1 g c : Nat} {op : Int} {s : ByteArray} {n : Int} {ys zs : List Nd} (h : PlainI w W S1 g c op s n ys zs) (hb : Below W.heap.size W W') : PlainI w W' S1 g c op s n ys zs := by
  obtain ⟨h1, h2, h3, h4, h5, h6, h7, h8⟩ := h
  exact ⟨h1.below hb h1.lt, h2.below hb h2.lt, own_belowP h3 hb, fun y hy => ⟨(h4 y hy).1.below hb hb.size, (h4 y hy).2⟩, h5.trans (hb.mono h5.size), h6, h7, Nat.le_trans h8 hb.size⟩

theorem NBlk.same_len {w : World} {B : Nat} {op : Int} {s : ByteArray} {n f t : Int} {A : Option Addr} {c : Nat} {l l' : List Nd} (h : NBlk w B (.mk op s n f t A c l)) (hl : l.length = l'.length) : NBlk w B (.mk op s n f t A c l') := by
  have e : (Nd.mk op s n f t A c l').arr = (Nd.mk op s n f t A c l).arr := by simp [Nd.arr, hl]
  unfold NBlk at *
  rw [e]
  exact h

theorem PlainI.store {w W : World} {S1 g c : Nat} {op : Int} {s : ByteArray} {n : Int} {ys zs : List Nd} {z y : Nd} (h : PlainI w W S1 g c op s n ys (z :: zs)) (hy1 : y.In W W.heap.size) (hy2 : y.Ge S1) {k : Nat} (hk : k = ys.length) {v0 v1 v2 v3 v4 v5 : Value} (hy : y.cells = [v0, v1, v2, v3, v4, v5]) :
    PlainI w ((((((W.setCell ⟨g, k * 6, none⟩ v0).setCell ⟨g, k * 6 + 1, none⟩ v1).setCell ⟨g, k * 6 + 2, none⟩ v2).setCell ⟨g, k * 6 + 3, none⟩ v3).setCell ⟨g, k * 6 + 4, none⟩ v4).setCell ⟨g, k * 6 + 5, none⟩ v5) S1 g c op s n (ys ++ [y]) zs := by
  subst hk
  obtain ⟨h1, h2, h3, h4, h5, h6, h7, h8⟩ := h
  obtain ⟨o1, o2⟩ := own_setN h3 (k := ys.length) (by simp) hy
  have e1 : (ys ++ z :: zs).set ys.length y = ys ++ [y] ++ zs := by simp
  have e2 : (ys ++ z :: zs).length = (ys ++ [y] ++ zs).length := by simp
  rw [e1, e2] at o1
  generalize hW : ((((((W.setCell ⟨g, ys.length * 6, none⟩ v0).setCell ⟨g, ys.length * 6 + 1, none⟩ v1).setCell ⟨g, ys.length * 6 + 2, none⟩ v2).setCell ⟨g, ys.length * 6 + 3, none⟩ v3).setCell ⟨g, ys.length * 6 + 4, none⟩ v4).setCell ⟨g, ys.length * 6 + 5, none⟩ v5) = W' at o1 o2 ⊢
  have hk : ∀ b o, S1 ≤ b → b < W.heap.size → W'.cell? ⟨b, o, none⟩ = W.cell? ⟨b, o, none⟩ := fun b o hb hb2 => World.cell?_of_block (o2.block b hb2 (fun e => by injection e with e; omega))
  refine ⟨(h1.kept o2 (fun e => by injection e with e; omega)).same_len e2, h2.kept o2 (fun e => by injection e with e; omega), o1, fun y' hy' => ?_, h5.grown o2 h5.size (fun q e => by injection e with e; omega), h6, h7, Nat.le_trans h8 o2.size⟩
  rcases List.mem_append.1 hy' with hm | hm
  · exact ⟨Nd.In.keepGe hk o2.size y' (h4 y' hm).2 (h4 y' hm).1, (h4 y' hm).2⟩
  · obtain rfl : y' = y := by simpa using hm
    exact ⟨Nd.In.keepGe hk o2.size y' hy2 hy1, hy2⟩

theorem PlainI.cells {w W : World} {S1 g c j : Nat} {op : Int} {s : ByteArray} {n : Int} {ys zs : List Nd} {op1 : Int} {s1 : ByteArray} {n1 f1 t1 : Int} {A1 : Option Addr} {c1 : Nat} {l1 : List Nd} (h : PlainI w W S1 g c op s n ys (.mk op1 s1 n1 f1 t1 A1 c1 l1 :: zs)) (hj : ys.length = j) :
    (W.cell? ⟨g, j * 6, none⟩ = some (.int .i64 op1) ∧ W.cell? ⟨g, j * 6 + 1, none⟩ = some (.string s1) ∧ W.cell? ⟨g, j * 6 + 2, none⟩ = some (.int .i64 n1) ∧ W.cell? ⟨g, j * 6 + 3, none⟩ = some (.int .i64 f1) ∧ W.cell? ⟨g, j * 6 + 4, none⟩ = some (.int .i64 t1) ∧ W.cell? ⟨g, j * 6 + 5, none⟩ = some (.slice A1 l1.length c1)) ∧
    (W.frozen? ⟨g, j * 6, none⟩ = false ∧ W.frozen? ⟨g, j * 6 + 1, none⟩ = false ∧ W.frozen? ⟨g, j * 6 + 2, none⟩ = false ∧ W.frozen? ⟨g, j * 6 + 3, none⟩ = false ∧ W.frozen? ⟨g, j * 6 + 4, none⟩ = false ∧ W.frozen? ⟨g, j * 6 + 5, none⟩ = false) := by
  subst hj
  obtain ⟨h1, h2, h3, h4, h5, h6, h7, h8⟩ := h
  have hg := cellsN_get (ys ++ Nd.mk op1 s1 n1 f1 t1 A1 c1 l1 :: zs) ys.length (by simp)
  have hl : (ys ++ Nd.mk op1 s1 n1 f1 t1 A1 c1 l1 :: zs).length = ys.length + zs.length + 1 := by simp; omega
  have e : (ys ++ Nd.mk op1 s1 n1 f1 t1 A1 c1 l1 :: zs)[ys.length]'(by simp) = .mk op1 s1 n1 f1 t1 A1 c1 l1 := by simp
  rw [e] at hg
  refine ⟨⟨?_, ?_, ?_, ?_, ?_, ?_⟩, h3.frozenAt _, h3.frozenAt _, h3.frozenAt _, h3.frozenAt _, h3.frozenAt _, h3.frozenAt _⟩
  · rw [h3.cellAt _ (by omega)]; exact hg 0 (by omega)
  · rw [h3.cellAt _ (by omega)]; exact hg 1 (by omega)
  · rw [h3.cellAt _ (by omega)]; exact hg 2 (by omega)
  · rw [h3.cellAt _ (by omega)]; exact hg 3 (by omega)
  · rw [h3.cellAt _ (by omega)]; exact hg 4 (by omega)
  · rw [h3.cellAt _ (by omega)]; exact hg 5 (by omega)

theorem plainT_succ (k : Nat) (x z : Nd) (hz : z = x.bare) : plainT (k + 1) x.er = .mk z.op z.s z.n 0 0 ((z.l.map Nd.er).map (plainT k)) := by
  subst hz
  simp only [plainT, ← Nd.er_bare]
  generalize x.bare = y
  obtain ⟨op, s, n, f, t, A, c, l⟩ := y
  simp only [Nd.er_mk, Tr.op, Tr.s, Tr.n, Tr.l, Nd.op, Nd.s, Nd.n, Nd.l]

/-- what the call for one part gives, in the state of Plain -/
def PlainZ (w : World) (S1 g c : Nat) (op : Int) (s : ByteArray) (n : Int) (ys rest : List Nd) (z : Nd) (P k : Nat) (e : Ending) (w' : World) : Prop :=
  ∃ y : Nd, e = .returned y.val ∧ y.er = plainT (k + 1) z.er ∧ y.In w' w'.heap.size ∧ y.Ge S1 ∧ deepB k y.l = false ∧ y.cnt ≤ z.cnt ∧ PlainI w w' S1 g c op s n ys (z :: rest) ∧ NBlk w' P z

set_option maxHeartbeats 2000000 in
set_option maxRecDepth 100000 in
theorem plain_one (k : Nat) (x : Nd) (w : World) (hd : deepB k x.l = false) (hc : x.cnt ≤ 3000) (h : x.In w w.heap.size)
    (ih : ∀ k', k = k' + 1 → ∀ (z : Nd) (w : World), deepB k' z.l = false → z.cnt ≤ 3000 → z.In w w.heap.size → Calls Try.prog 28 #[z.val] w (PlainP k' z w)) :
    Calls Try.prog 28 #[x.val] w (PlainP k x w) := by
  have HZ := Lib.hid (Nd.bare_in x h)
  have HD := Lib.hid (Nd.bare_deep x hd)
  have HC := Lib.hid (Nat.le_trans (bare_cnt x) hc)
  have HC0 := Lib.hid (bare_cnt x)
  have IH := Lib.hid ih
  obtain ⟨z, hz⟩ : ∃ z, z = x.bare := ⟨_, rfl⟩
  have HPT := Lib.hid (plainT_succ k x z hz)
  rw [← hz] at HZ HD HC HC0
  obtain ⟨W0, hW0⟩ : ∃ W0, W0 = (w.alloc (.cells x.arr 24)).alloc (.cells zeroNd.arr 24) := ⟨_, rfl⟩
  have T0 : Hid (NBlk W0 w.heap.size x) := by rw [hW0]; exact (Blk.new w _ _).alloc _
  have T1 : Hid (NBlk W0 (w.heap.size + 1) zeroNd) := by
    have := Blk.new (w.alloc (.cells x.arr 24)) 24 zeroNd.arr
    rw [hW0]; simpa [Hid, NBlk] using this
  have T2 : Hid (Below w.heap.size w W0) := by rw [hW0]; exact ((Below.refl _ _).alloc (Nat.le_refl _) _).alloc (by simp) _
  have hsz : W0.heap.size = w.heap.size + 2 := by rw [hW0]; simp
  have cal := inside_any x W0 (h.below T2.out T2.out.size)
  rw [← hz] at cal
  have HW0 := Lib.hid hW0
  have HSZ := Lib.hid hsz
  have CAL := Lib.hid cal
  obtain ⟨pt, hpt⟩ : ∃ pt, pt = plainT (k + 1) x.er := ⟨_, rfl⟩
  obtain ⟨xc, hxc⟩ : ∃ xc, xc = x.cnt := ⟨_, rfl⟩
  unfold PlainP
  rw [← hpt, ← hxc]
  rw [← hpt] at HPT
  rw [← hxc] at HC0
  clear hd h ih hz hW0 hsz cal hpt hxc hc
  obtain ⟨op, s, n, f, t, A, c, l⟩ := x
  obtain ⟨zop, zs, zn, zf, zt, zA, zc, zl⟩ := z
  rw [Nd.val_mk] at CAL ⊢
  rw [Nd.val_mk] at CAL
  unfold Nd.arr zeroNd at HW0
  simp only [List.length_nil] at HW0
  go_enter Try.func28, Try.ntmps28
  go_wp2_with fail
  rw [← HW0.out]
  refine CAL.out.mono ?_
  rintro e w1 ⟨rfl, hb1⟩
  have g0 := T0.out.below hb1 T0.out.lt
  have g1 := T1.out.below hb1 T1.out.lt
  have HB1 : Hid (Below w.heap.size w w1) := T2.out.trans (hb1.mono T2.out.size)
  have HS1 : Hid (w.heap.size + 2 ≤ w1.heap.size) := by unfold Hid; have := hb1.size; rw [HSZ.out] at this; exact this
  obtain ⟨⟨c0, c1, c2, c3, c4, c5⟩, e0, e1, e2, e3, e4, e5⟩ := g0.all
  have G0 := Lib.hid g0
  have G1 := Lib.hid g1
  clear hb1 T0 T1 T2 CAL HW0 HSZ g0 g1
  go_upto_region 3 with (fail)
  obtain ⟨w2, hw2, F0, F1, F2, F3⟩ : ∃ w2 : World, ((((((((w1.setCell ⟨w.heap.size, 0, none⟩ (.int .i64 zop)).setCell ⟨w.heap.size, 1, none⟩ (.string zs)).setCell ⟨w.heap.size, 2, none⟩ (.int .i64 zn)).setCell ⟨w.heap.size, 3, none⟩ (.int .i64 zf)).setCell ⟨w.heap.size, 4, none⟩ (.int .i64 zt)).setCell ⟨w.heap.size, 5, none⟩ (.slice zA zl.length zc)).setCell ⟨w.heap.size, 3, none⟩ (.int .i64 0)).setCell ⟨w.heap.size, 4, none⟩ (.int .i64 0)) = w2 ∧
      NBlk w2 w.heap.size (.mk zop zs zn 0 0 zA zc zl) ∧ NBlk w2 (w.heap.size + 1) zeroNd ∧ Below w.heap.size w w2 ∧ w.heap.size + 2 ≤ w2.heap.size := by
    refine ⟨_, rfl, ?_, ?_, ?_, ?_⟩
    · have := Blk.set (Blk.set (NBlk.put (op := zop) (s := zs) (n := zn) (f := zf) (t := zt) (A := zA) (c := zc) (l := zl) G0.out rfl) 3 (.int .i64 0)) 4 (.int .i64 0)
      simpa [NBlk, Nd.arr] using this
    · exact ((G1.out.others (by omega) _ _ _ _ _ _).other (by simp) _).other (by simp) _
    · exact ((below_six HB1.out (Nat.le_refl _) _ _ _ _ _ _).setCell (p := ⟨w.heap.size, 3, none⟩) (Nat.le_refl _) _).setCell (p := ⟨w.heap.size, 4, none⟩) (Nat.le_refl _) _
    · have := HS1.out; simpa using this
  rw [hw2]
  obtain ⟨⟨c0, c1, c2, c3, c4, c5⟩, e0, e1, e2, e3, e4, e5⟩ := F0.all
  have hcl : zl.length ≤ 1000000 := by
    have h1 := cntL_length zl
    have h2 := HC.out
    simp only [Nd.cnt] at h2
    omega
  have cal := cloneN_any zA zc zl w2 hcl ((HZ.out.sl.below F2 F2.size).1)
  have F0 := Lib.hid F0
  have F1 := Lib.hid F1
  have F2 := Lib.hid F2
  have F3 := Lib.hid F3
  have CAL := Lib.hid cal
  clear hw2 cal G0 G1 HB1 HS1
  go_wp2_with fail
  refine CAL.out.mono ?_
  rintro e w3 ⟨CA, cc, rfl, hown, hb3⟩
  have g0 := F0.out.below hb3 F0.out.lt
  have g1 := F1.out.below hb3 F1.out.lt
  have HB3 : Hid (Below w.heap.size w w3) := F2.out.trans (hb3.mono F2.out.size)
  have HS3 : Hid (w.heap.size + 2 ≤ w3.heap.size) := Nat.le_trans F3.out hb3.size
  obtain ⟨⟨c0, c1, c2, c3, c4, c5⟩, e0, e1, e2, e3, e4, e5⟩ := g0.all
  have G0 := Lib.hid g0
  have G1 := Lib.hid g1
  have HO := Lib.hid hown
  have HF3 := Lib.hid F3
  clear hb3 F0 F1 F2 F3 CAL hown g0 g1
  go_upto_region 4 with (fail)
  obtain ⟨w4, hw4, F0, F1, FO, F2, F3⟩ : ∃ w4 : World, (w3.setCell ⟨w.heap.size, 5, none⟩ (.slice CA zl.length cc)) = w4 ∧
      NBlk w4 w.heap.size (.mk zop zs zn 0 0 CA cc zl) ∧ NBlk w4 (w.heap.size + 1) zeroNd ∧ w4.ownsRow (w.heap.size + 2) 24 6 (.slice CA zl.length cc) zl.length (cellsN zl) ∧ Below w.heap.size w w4 ∧ w.heap.size + 2 ≤ w4.heap.size := by
    refine ⟨_, rfl, ?_, ?_, ?_, ?_, ?_⟩
    · have := Blk.set G0.out 5 (.slice CA zl.length cc)
      simpa [NBlk, Nd.arr] using this
    · exact G1.out.other (by simp) _
    · exact (Go.Joins.ownsRow_le HO.out HF3.out).kept (grownBy_setCellJ _ _ _ _) (.inr fun e => by have := (HO.out.lt _ e).1; have := HF3.out; omega)
    · exact HB3.out.setCell (p := ⟨w.heap.size, 5, none⟩) (Nat.le_refl _) _
    · have := HS3.out; simpa using this
  rw [hw4]
  obtain ⟨⟨c0, c1, c2, c3, c4, c5⟩, e0, e1, e2, e3, e4, e5⟩ := F0.all
  have d := F1.all
  unfold zeroNd at F1
  obtain ⟨⟨d0, d1, d2, d3, d4, d5⟩, r0, r1, r2, r3, r4, r5⟩ := F1.all
  clear d hw4 G0 G1 HO HB3 HS3 HF3
  by_cases hzl : zl = []
  · subst hzl
    have HN : Hid (PlainQ k pt xc w (.returned (Nd.mk zop zs zn 0 0 CA cc []).val) ((((((w4.setCell ⟨w.heap.size + 1, 0, none⟩ (.int .i64 zop)).setCell ⟨w.heap.size + 1, 1, none⟩ (.string zs)).setCell ⟨w.heap.size + 1, 2, none⟩ (.int .i64 zn)).setCell ⟨w.heap.size + 1, 3, none⟩ (.int .i64 0)).setCell ⟨w.heap.size + 1, 4, none⟩ (.int .i64 0)).setCell ⟨w.heap.size + 1, 5, none⟩ (.slice CA 0 cc))) := by
      refine ⟨_, rfl, ?_, ?_, ?_, ?_, ?_, below_six F2 (by omega) _ _ _ _ _ _⟩
      · rw [HPT.out]; simp [Nd.er_mk, Nd.op, Nd.s, Nd.n, Nd.l]
      · refine NdSl.nd ⟨fun hl => by simp [cellsN] at hl, by simp, by unfold Nd.AllIn; trivial⟩
      · unfold Nd.Ge
        refine ⟨fun a e => ?_, by unfold Nd.AllGe; trivial⟩
        subst e
        have := (FO.lt a.block rfl).1
        omega
      · cases k <;> simp [deepB, Nd.l]
      · refine Nat.le_trans ?_ HC0.out
        simp [Nd.cnt]
    clear F0 F1 F2 F3 FO HPT HC HC0 HD HZ IH
    simp only [List.length_nil] at c5 d5 ⊢
    go_wp2_with fail
    refine wp_loop_rounds 1 ?_
    rw [rounds_succ]
    go_wp2_with fail
    refine bodyPost_ret (v := (Nd.mk zop zs zn 0 0 CA cc []).val) ?_ rfl ?_
    · rw [results_cell1 rfl]
      rw [Nd.val_mk]
      go_simp
    · exact HN.out
  · obtain ⟨g, rfl⟩ : ∃ g, CA = some ⟨g, 0, none⟩ := by
      rcases FO.2 with ⟨e, e0⟩ | ⟨g, cap, cur, e, _⟩
      · exact absurd (List.length_eq_zero_iff.1 e0) hzl
      · injection e with e1; exact ⟨g, e1⟩
    have hg := FO.lt g rfl
    have HI : Hid (PlainI w w4 w4.heap.size g cc zop zs zn [] zl) := ⟨F0, F1, FO, fun y hy => by simp at hy, F2, hg.1, hg.2, Nat.le_refl _⟩
    have hzl3 : zl.length ≤ 3000 := by
      have h1 := cntL_length zl
      have h2 := HC.out
      simp only [Nd.cnt] at h2
      omega
    obtain ⟨S1, hS1⟩ : ∃ S1, S1 = w4.heap.size := ⟨_, rfl⟩
    rw [← hS1] at HI
    have hg1 : w.heap.size + 2 ≤ g := hg.1
    clear F0 F1 F2 F3 FO hzl hg hS1
    go_wp2_with fail
    go_loopw [16] (fun i wr => ∃ (j : Nat) (ys done rest : List Nd), Hid (zl = done ++ rest) ∧ Hid (ys.length = done.length) ∧ i = .int .i64 j ∧ Hid (ys.length = j) ∧ Hid (ys.map Nd.er = (done.map Nd.er).map (plainT k)) ∧ Hid (∀ y ∈ ys, ∀ k', k = k' + 1 → deepB k' y.l = false) ∧ Hid (cntL ys ≤ cntL done) ∧ Hid (PlainI w wr S1 g cc zop zs zn ys rest)) (fun i _ => zl.length - (intOf i).toNat)
    case atStart => exact ⟨0, [], [], zl, rfl, rfl, rfl, rfl, rfl, (fun y hy => by simp at hy), Nat.le_refl _, HI⟩
    case round =>
      obtain ⟨j, ys, done, rest, HL, HYL, rfl, HJ, HER, HDE, HCN, HI⟩ := hrel
      cases rest with
      | nil =>
        have hyl : ys.length = zl.length := by have h1 := HL.out; have h2 := HYL.out; rw [h1]; simp; omega
        have hlt : ¬ ((j : Int) < (zl.length : Int)) := by have := HJ.out; omega
        obtain ⟨f0, f1, fo, f4, f5, f6, f7, f8⟩ := HI.out
        simp only [List.append_nil] at f0 f1 fo
        obtain ⟨⟨c0, c1, c2, c3, c4, c5⟩, e0, e1, e2, e3, e4, e5⟩ := f0.all
        unfold zeroNd at f1
        obtain ⟨⟨d0, d1, d2, d3, d4, d5⟩, r0, r1, r2, r3, r4, r5⟩ := f1.all
        have HN : Hid (PlainQ k pt xc w (.returned (Nd.mk zop zs zn 0 0 (some ⟨g, 0, none⟩) cc ys).val) ((((((wr.setCell ⟨w.heap.size + 1, 0, none⟩ (.int .i64 zop)).setCell ⟨w.heap.size + 1, 1, none⟩ (.string zs)).setCell ⟨w.heap.size + 1, 2, none⟩ (.int .i64 zn)).setCell ⟨w.heap.size + 1, 3, none⟩ (.int .i64 0)).setCell ⟨w.heap.size + 1, 4, none⟩ (.int .i64 0)).setCell ⟨w.heap.size + 1, 5, none⟩ (.slice (some ⟨g, 0, none⟩) ys.length cc))) := by
          have hdone : zl = done := by have := HL.out; simpa using this
          refine ⟨_, rfl, ?_, ?_, ?_, ?_, ?_, below_six f5 (by omega) _ _ _ _ _ _⟩
          · rw [HPT.out, Nd.er_mk, HER.out, hdone]; rfl
          · have hin : (Nd.mk zop zs zn 0 0 (some ⟨g, 0, none⟩) cc ys).In wr wr.heap.size := NdSl.nd ⟨Rd.of_own fo, by omega, Nd.AllIn.of fun y hy => (f4 y hy).1⟩
            have hge : (Nd.mk zop zs zn 0 0 (some ⟨g, 0, none⟩) cc ys).Ge (w.heap.size + 2) := by
              unfold Nd.Ge
              exact ⟨fun a e => by cases e; exact f6, Nd.AllGe.of fun y hy => Nd.Ge.less (by omega) y (f4 y hy).2⟩
            refine Nd.In.keepGe (B0 := w.heap.size + 2) (fun b o hb _ => ?_) (by simp) _ hge hin
            have hgr : wr.grownBy ((((((wr.setCell ⟨w.heap.size + 1, 0, none⟩ (.int .i64 zop)).setCell ⟨w.heap.size + 1, 1, none⟩ (.string zs)).setCell ⟨w.heap.size + 1, 2, none⟩ (.int .i64 zn)).setCell ⟨w.heap.size + 1, 3, none⟩ (.int .i64 0)).setCell ⟨w.heap.size + 1, 4, none⟩ (.int .i64 0)).setCell ⟨w.heap.size + 1, 5, none⟩ (.slice (some ⟨g, 0, none⟩) ys.length cc)) (some (w.heap.size + 1)) :=
              grownBy_trans (grownBy_trans (grownBy_trans (grownBy_trans (grownBy_trans (grownBy_setCellJ _ _ _ _) (grownBy_setCellJ _ _ _ _)) (grownBy_setCellJ _ _ _ _)) (grownBy_setCellJ _ _ _ _)) (grownBy_setCellJ _ _ _ _)) (grownBy_setCellJ _ _ _ _)
            exact World.cell?_of_block (hgr.block b (by assumption) (fun e => by injection e with e; omega))
          · unfold Nd.Ge
            exact ⟨fun a e => by cases e; simp only; omega, Nd.AllGe.of fun y hy => Nd.Ge.less (by omega) y (f4 y hy).2⟩
          · cases k with
            | zero =>
              have := deepB_nil HD.out
              simp only [Nd.l] at this
              rw [this] at hyl
              simp at hyl
              subst hyl
              rfl
            | succ k' =>
              rw [deepB, List.any_eq_false]
              intro y hy
              simp [HDE.out y hy k' rfl]
          · refine Nat.le_trans ?_ HC0.out
            have := HCN.out
            rw [← hdone] at this
            simp only [Nd.cnt]
            omega
        clear HPT HC HC0 HD HZ IH HER HDE HCN HL HYL HI fo f4 f5 f8
        go_wp2_with fail
        refine bodyPost_ret (v := (Nd.mk zop zs zn 0 0 (some ⟨g, 0, none⟩) cc ys).val) ?_ rfl ?_
        · rw [results_cell1 rfl]
          rw [Nd.val_mk]
          go_simp
        · have := HN.out
          simpa [hyl] using this
      | cons z rest =>
        have hzm : z ∈ zl := by rw [HL.out]; simp
        have hlen : (ys ++ z :: rest).length = zl.length := by have h1 := HL.out; have h2 := HYL.out; rw [h1]; simp; omega
        have hltN : j < zl.length := by have := HJ.out; rw [← hlen]; simp; omega
        have hlt : (j : Int) < (zl.length : Int) := by omega
        have hlt0 : (0 : Int) ≤ (j : Int) := by omega
        cases k with
        | zero =>
          have := deepB_nil HD.out
          simp only [Nd.l] at this
          rw [this] at hzm
          simp at hzm
        | succ k =>
        have hzd : deepB k z.l = false := deepB_part HD.out z hzm
        have hzc : z.cnt ≤ 3000 := by
          have h1 := cntL_mem hzm
          have h2 := HC.out
          simp only [Nd.cnt] at h2
          omega
        have hzi : z.In w w.heap.size := HZ.out.sl.2.2.mem z hzm
        have cal := fun (W : World) (hW : PlainI w W S1 g cc zop zs zn ys (z :: rest)) (hK : NBlk W wr.heap.size z) => (IH.out k rfl z W hzd hzc (hzi.below hW.2.2.2.2.1 hW.2.2.2.2.1.size)).mono (R' := PlainZ w S1 g cc zop zs zn ys rest z wr.heap.size k) (fun e w' ⟨y, h1, h2, h3, h4, h5, h6, h7⟩ => ⟨y, h1, h2, h3, Nd.Ge.less hW.2.2.2.2.2.2.2 y h4, h5, h6, hW.after h7, hK.below h7 hK.lt⟩)
        obtain ⟨W1, hW1⟩ : ∃ W1, W1 = wr.alloc (.cells z.arr 24) := ⟨_, rfl⟩
        have hb1 : Below wr.heap.size wr W1 := by rw [hW1]; exact (Below.refl _ _).alloc (Nat.le_refl _) _
        have hz1 : NBlk W1 wr.heap.size z := by rw [hW1]; exact Blk.new wr _ _
        have I1 := Lib.hid (HI.out.after (hb1.trans ((Below.refl _ _).drew.mono (Nat.le_of_lt (by have := hz1.lt; exact this)))))
        have K1 : Hid (NBlk W1.drew wr.heap.size z) := hz1
        have HW1 := Lib.hid hW1
        have f1 := I1.out.1.same_len (l' := zl) hlen
        obtain ⟨⟨_, _, _, _, _, c5'⟩, _⟩ := f1.all
        have f0 := HI.out.1.same_len (l' := zl) hlen
        obtain ⟨_, _, _, _, _, c5⟩ := f0.cells
        obtain ⟨op1, s1, n1, f1_, t1, A1, l1c, l1⟩ := z
        obtain ⟨k0, k1, k2, k3, k4, k5⟩ := K1.out.cells
        obtain ⟨⟨p0, p1, p2, p3, p4, p5⟩, _⟩ := HI.out.cells HJ.out
        rw [Nd.val_mk] at cal
        have CP := Lib.hid cal
        unfold Nd.arr at HW1
        have HLEN := Lib.hid hlen
        have gn1 : ¬ w.heap.size = g := by omega
        have gn2 : ¬ wr.heap.size = g := by have h1 := HI.out.2.2.2.2.2.2.1; have h2 := HI.out.2.2.2.2.2.2.2; omega
        have gn3 : ¬ g = w.heap.size := by omega
        have gn4 : ¬ g = wr.heap.size := by omega
        clear cal hb1 hz1 hW1 hzd hzc hzi hzm f0 f1 hlen HPT HC HC0 HD HZ IH
        go_wp2_with fail
        rw [← HW1.out]
        go_region_held3 (fun w' => w'.cell? ⟨w.heap.size, 5, none⟩ = some (.slice (some ⟨g, 0, none⟩) zl.length cc) ∧ w'.cell? ⟨wr.heap.size, 0, none⟩ = some (.int .i64 op1) ∧ w'.cell? ⟨wr.heap.size, 1, none⟩ = some (.string s1) ∧ w'.cell? ⟨wr.heap.size, 2, none⟩ = some (.int .i64 n1) ∧ w'.cell? ⟨wr.heap.size, 3, none⟩ = some (.int .i64 f1_) ∧ w'.cell? ⟨wr.heap.size, 4, none⟩ = some (.int .i64 t1) ∧ w'.cell? ⟨wr.heap.size, 5, none⟩ = some (.slice A1 l1.length l1c))
          (first
            | with_reducible exact ⟨c5', k0, k1, k2, k3, k4, k5⟩
            | with_reducible exact ⟨m5, n0, n1_, n2, n3, n4, n5⟩
            | go_keep)
          (first
            | (go_at_call 28; refine (CP.out W1.drew I1.out K1.out).mono ?_; (rintro e w6 ⟨y, rfl, her, hin, hge, hde, hcn, hI2, hK2⟩; have HIN := Lib.hid hin; have HGE := Lib.hid hge; have HDE2 := Lib.hid hde; have HCN2 := Lib.hid hcn; have HER2 := Lib.hid her; have I2 := Lib.hid hI2; have K2 := Lib.hid hK2; obtain ⟨⟨_, _, _, _, _, m5⟩, _⟩ := (hI2.1.same_len (l' := zl) HLEN.out).all; obtain ⟨n0, n1_, n2, n3, n4, n5⟩ := hK2.cells; obtain ⟨⟨u0, u1, u2, u3, u4, u5⟩, v0, v1, v2, v3, v4, v5⟩ := hI2.cells HJ.out; clear hin hge hde hcn her hI2 hK2 c0 c1 c2 c3 c4 c5 e0 e1 e2 e3 e4 e5 d0 d1 d2 d3 d4 d5 r0 r1 r2 r3 r4 r5 k0 k1 k2 k3 k4 k5 p0 p1 p2 p3 p4 p5 c5'; obtain ⟨yop, ys1, yn, yf, yt, yA, yc, yl⟩ := y; rw [Nd.val_mk])))
        clear u0 u1 u2 u3 u4 u5 v0 v1 v2 v3 v4 v5 m5 n0 n1_ n2 n3 n4 n5
        go_wp2_with fail
        go_roundw
        case rel =>
          refine ⟨j + 1, ys ++ [.mk yop ys1 yn yf yt yA yc yl], done ++ [.mk op1 s1 n1 f1_ t1 A1 l1c l1], rest, ?_, ?_, by go_num, ?_, ?_, ?_, ?_, ?_⟩
          · unfold Hid; rw [HL.out]; simp
          · unfold Hid; have := HYL.out; simp [this]
          · unfold Hid; have := HJ.out; simp [this]
          · unfold Hid; rw [List.map_append, HER.out, List.map_append, List.map_append]; simp [HER2.out]
          · intro y' hy' k' e
            obtain rfl : k = k' := by omega
            rcases List.mem_append.1 hy' with hm | hm
            · exact HDE.out y' hm k rfl
            · obtain rfl : y' = .mk yop ys1 yn yf yt yA yc yl := by simpa using hm
              exact HDE2.out
          · unfold Hid; rw [cntL_append, cntL_append]; have h1 := HCN.out; have h2 := HCN2.out; simp only [cntL]; omega
          · exact I2.out.store HIN.out HGE.out HJ.out.symm rfl
        case measure => simp [intOf]; omega

theorem plain_any : ∀ (k : Nat) (x : Nd) (w : World), deepB k x.l = false → x.cnt ≤ 3000 → x.In w w.heap.size → Calls Try.prog 28 #[x.val] w (PlainP k x w)
  | 0, x, w, hd, hc, h => plain_one 0 x w hd hc h fun k' e => by omega
  | k + 1, x, w, hd, hc, h => plain_one (k + 1) x w hd hc h fun k' e z w' hd' hc' h' => by
    obtain rfl : k = k' := by omega
    exact plain_any k z w' hd' hc' h'

end Go.Proofs.Ytcndfihcjaoifaa
