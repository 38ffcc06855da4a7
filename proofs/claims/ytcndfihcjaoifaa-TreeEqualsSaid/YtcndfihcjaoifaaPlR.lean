/- The document's Plain gives a tree without parentheses and places, in new memory. -/
import Derived.Test.YtcndfihcjaoifaaPlain
import Derived.Deep.RegionLaw
import Derived.Deep.AppendLies

namespace Go.Proofs.Ytcndfihcjaoifaa
open Go.RowKit Go.Maps

mutual
/-- no list of parts of a tree lies in block q -/
def Nd.Off (q : Nat) : Nd → Prop
  | .mk _ _ _ _ _ A _ l => (0 < l.length → ∀ a, A = some a → a.block ≠ q) ∧ Nd.AllOff q l
def Nd.AllOff (q : Nat) : List Nd → Prop
  | [] => True
  | x :: l => Nd.Off q x ∧ Nd.AllOff q l
end

mutual
theorem Nd.Ge.off {B q : Nat} (h : q < B) : ∀ (x : Nd), x.Ge B → x.Off q
  | .mk _ _ _ _ _ _ _ l, hg => by
    unfold Nd.Ge at hg
    unfold Nd.Off
    exact ⟨fun _ a e => by have := hg.1 a e; omega, Nd.AllGe.off h l hg.2⟩
theorem Nd.AllGe.off {B q : Nat} (h : q < B) : ∀ (l : List Nd), Nd.AllGe B l → Nd.AllOff q l
  | [], _ => by unfold Nd.AllOff; trivial
  | x :: l, hg => by
    unfold Nd.AllGe at hg
    unfold Nd.AllOff
    exact ⟨Nd.Ge.off h x hg.1, Nd.AllGe.off h l hg.2⟩
end

mutual
theorem Nd.In.off {w : World} {B q : Nat} (h : B ≤ q) : ∀ (x : Nd), x.In w B → x.Off q
  | .mk _ _ _ _ _ A _ l, hi => by
    unfold Nd.In at hi
    unfold Nd.Off
    refine ⟨fun hl a e => ?_, Nd.AllIn.off h l hi.2.2⟩
    obtain ⟨b, off, e2, hb, _⟩ := hi.1 (by rw [cellsN_length]; omega)
    rw [e] at e2
    cases e2
    simp only
    omega
theorem Nd.AllIn.off {w : World} {B q : Nat} (h : B ≤ q) : ∀ (l : List Nd), Nd.AllIn w B l → Nd.AllOff q l
  | [], _ => by unfold Nd.AllOff; trivial
  | x :: l, hi => by
    unfold Nd.AllIn at hi
    unfold Nd.AllOff
    exact ⟨Nd.In.off h x hi.1, Nd.AllIn.off h l hi.2⟩
end

mutual
theorem Nd.In.keepOff {w w' : World} {q B B' : Nat} (hk : ∀ b o, b ≠ q → b < B → w'.cell? ⟨b, o, none⟩ = w.cell? ⟨b, o, none⟩) (hB : B ≤ B') : ∀ (x : Nd), x.Off q → x.In w B → x.In w' B'
  | .mk _ _ _ _ _ A _ l, hg, h => by
    unfold Nd.Off at hg
    unfold Nd.In at h ⊢
    refine ⟨fun hl => ?_, h.2.1, Nd.AllIn.keepOff hk hB l hg.2 h.2.2⟩
    obtain ⟨b, off, e, hb, hc⟩ := h.1 hl
    have h0 : 0 < l.length := by rw [cellsN_length] at hl; omega
    exact ⟨b, off, e, by omega, fun j u hu => (hk _ _ (hg.1 h0 _ e) hb).trans (hc j u hu)⟩
theorem Nd.AllIn.keepOff {w w' : World} {q B B' : Nat} (hk : ∀ b o, b ≠ q → b < B → w'.cell? ⟨b, o, none⟩ = w.cell? ⟨b, o, none⟩) (hB : B ≤ B') : ∀ (l : List Nd), Nd.AllOff q l → Nd.AllIn w B l → Nd.AllIn w' B' l
  | [], _, _ => by unfold Nd.AllIn; trivial
  | x :: l, hg, h => by
    unfold Nd.AllOff at hg
    unfold Nd.AllIn at h ⊢
    exact ⟨Nd.In.keepOff hk hB x hg.1 h.1, Nd.AllIn.keepOff hk hB l hg.2 h.2⟩
end

theorem Nd.In.grown {w w' : World} {row : Option Nat} {x : Nd} (h : x.In w w.heap.size) (hg : w.grownBy w' row) (ho : ∀ q, row = some q → x.Off q) : x.In w' w'.heap.size := by
  cases row with
  | none => exact Nd.In.keep (fun b o hb => World.cell?_of_block (hg.block b hb (by simp))) hg.size x h
  | some q => exact Nd.In.keepOff (q := q) (fun b o hb hb2 => World.cell?_of_block (hg.block b hb2 (fun e => hb (by injection e)))) hg.size x (ho q rfl) h

/-- what the document's Plain gives -/
def RefP (pt : Tr) (w : World) (e : Ending) (w' : World) : Prop :=
  ∃ y : Nd, e = .returned y.val ∧ y.er = pt ∧ y.In w' w'.heap.size ∧ y.Ge w.heap.size ∧ Below w.heap.size w w'

/-- the state of the document's Plain -/
def RefI (w W : World) (O : Nat) (v : Value) (zop : Int) (zs : ByteArray) (zn zf zt : Int) (zA : Option Addr) (zc : Nat) (zl ys : List Nd) : Prop :=
  NBlk W w.heap.size (.mk zop zs zn zf zt zA zc zl) ∧ NBlk W (w.heap.size + 1) zeroNd ∧ Blk W O 24 #[.int .i64 zop, .string zs, .int .i64 zn, .int .i64 0, .int .i64 0, v] ∧
    W.ownsRow (O + 1) 24 6 v ys.length (cellsN ys) ∧ (∀ y ∈ ys, y.In W W.heap.size ∧ (∀ q, v.ownBlock = some q → y.Off q) ∧ y.Ge (O + 1)) ∧ Below w.heap.size w W ∧ w.heap.size + 2 ≤ O ∧ O < W.heap.size

theorem RefI.after {w W W' : World} {O : Nat} {v : Value} {zop : Int} {zs : ByteArray} {zn zf zt : Int} {zA : Option Addr} {zc : Nat} {zl ys : List Nd} (h : RefI w W O v zop zs zn zf zt zA zc zl ys) (hb : Below W.heap.size W W') : RefI w W' O v zop zs zn zf zt zA zc zl ys := by
  obtain ⟨h1, h2, h3, h4, h5, h6, h7, h8⟩ := h
  exact ⟨h1.below hb h1.lt, h2.below hb h2.lt, h3.below hb h3.lt, own_belowP h4 hb, fun y hy => ⟨(h5 y hy).1.below hb hb.size, (h5 y hy).2.1, (h5 y hy).2.2⟩, h6.trans (hb.mono h6.size), h7, Nat.lt_of_lt_of_le h8 hb.size⟩

theorem RefI.push {w W W' : World} {O : Nat} {v v' : Value} {zop : Int} {zs : ByteArray} {zn zf zt : Int} {zA : Option Addr} {zc : Nat} {zl ys : List Nd} {y : Nd} (h : RefI w W O v zop zs zn zf zt zA zc zl ys) (hy1 : y.In W W.heap.size) (hy2 : ∀ q, v.ownBlock = some q → y.Off q) (hy3 : y.Ge (O + 1))
    (ho : W'.ownsRow (O + 1) 24 6 v' (ys.length + 1) (cellsN ys ++ y.cells)) (hg : W.grownBy W' v.ownBlock) (hat : ∀ q, v'.ownBlock = some q → v.ownBlock = some q ∨ W.heap.size ≤ q) :
    RefI w (W'.setCell ⟨O, 5, none⟩ v') O v' zop zs zn zf zt zA zc zl (ys ++ [y]) := by
  obtain ⟨h1, h2, h3, h4, h5, h6, h7, h8⟩ := h
  have hne : ∀ p, p < O + 1 → some p ≠ v.ownBlock := fun p hp e => by have := (h4.lt p e.symm).1; omega
  have hne' : ∀ p, p < O + 1 → some p ≠ v'.ownBlock := fun p hp e => by have := (ho.lt p e.symm).1; omega
  have g1 := h1.kept hg (hne _ (by omega))
  have g2 := h2.kept hg (hne _ (by omega))
  have g3 := Blk.kept h3 hg (hne _ (by omega))
  have hs := grownBy_setCellJ W' O 5 v'
  have hin : ∀ y' : Nd, y'.In W W.heap.size → (∀ q, v.ownBlock = some q → y'.Off q) → y'.Ge (O + 1) → y'.In (W'.setCell ⟨O, 5, none⟩ v') (W'.setCell ⟨O, 5, none⟩ v').heap.size := fun y' a b c => (a.grown hg b).grown hs (fun q e => by injection e with e; subst e; exact Nd.Ge.off (by omega) y' c)
  have hoff : ∀ y' : Nd, y'.In W W.heap.size → (∀ q, v.ownBlock = some q → y'.Off q) → ∀ q, v'.ownBlock = some q → y'.Off q := fun y' a b q hq => by
    rcases hat q hq with e | e
    · exact b q e
    · exact Nd.In.off e y' a
  refine ⟨g1.other (by simp; omega) _, g2.other (by simp; omega) _, ?_, ?_, ?_, (h6.grown hg h6.size (fun q e => by have := (h4.lt q e).1; omega)).setCell (p := ⟨O, 5, none⟩) (by simp; omega) _, h7, ?_⟩
  · have := g3.set 5 v'
    simpa using this
  · have := ho.kept hs (.inr fun e => hne' O (by omega) e.symm)
    simpa [cellsN] using this
  · intro y' hy'
    rcases List.mem_append.1 hy' with hm | hm
    · exact ⟨hin y' (h5 y' hm).1 (h5 y' hm).2.1 (h5 y' hm).2.2, hoff y' (h5 y' hm).1 (h5 y' hm).2.1, (h5 y' hm).2.2⟩
    · obtain rfl : y' = y := by simpa using hm
      exact ⟨hin y' hy1 hy2 hy3, hoff y' hy1 hy2, hy3⟩
  · have := hg.size
    simp
    omega

set_option maxHeartbeats 2000000 in
set_option maxRecDepth 100000 in
theorem refPlain_one (k : Nat) (x : Nd) (w : World) (hd : deepB k x.l = false) (hc : x.cnt ≤ 3000) (h : x.In w w.heap.size)
    (ih : ∀ k', k = k' + 1 → ∀ (z : Nd) (w : World), deepB k' z.l = false → z.cnt ≤ 3000 → z.In w w.heap.size → Calls Try.prog 29 #[z.val] w (RefP (plainT (k' + 1) z.er) w)) :
    Calls Try.prog 29 #[x.val] w (RefP (plainT (k + 1) x.er) w) := by
  have HZ := Lib.hid (Nd.bare_in x h)
  have HD := Lib.hid (Nd.bare_deep x hd)
  have HC := Lib.hid (Nat.le_trans (bare_cnt x) hc)
  have IH := Lib.hid ih
  obtain ⟨z, hz⟩ : ∃ z, z = x.bare := ⟨_, rfl⟩
  have HPT := Lib.hid (plainT_succ k x z hz)
  rw [← hz] at HZ HD HC
  obtain ⟨W0, hW0⟩ : ∃ W0, W0 = (w.alloc (.cells x.arr 24)).alloc (.cells zeroNd.arr 24) := ⟨_, rfl⟩
  have T0 : Hid (NBlk W0 w.heap.size x) := by rw [hW0]; exact (Blk.new w _ _).alloc _
  have T1 : Hid (NBlk W0 (w.heap.size + 1) zeroNd) := by
    have := Blk.new (w.alloc (.cells x.arr 24)) 24 zeroNd.arr
    rw [hW0]; simpa [Hid, NBlk] using this
  have T2 : Hid (Below w.heap.size w W0) := by rw [hW0]; exact ((Below.refl _ _).alloc (Nat.le_refl _) _).alloc (by simp) _
  have hsz : W0.heap.size = w.heap.size + 2 := by rw [hW0]; simp
  have cal := bareR_any x W0 (h.below T2.out T2.out.size)
  rw [← hz] at cal
  have HW0 := Lib.hid hW0
  have HSZ := Lib.hid hsz
  have CAL := Lib.hid cal
  obtain ⟨pt, hpt⟩ : ∃ pt, pt = plainT (k + 1) x.er := ⟨_, rfl⟩
  rw [← hpt]
  rw [← hpt] at HPT
  clear hd h ih hz hW0 hsz cal hpt hc
  obtain ⟨op, s, n, f, t, A, c, l⟩ := x
  obtain ⟨zop, zs, zn, zf, zt, zA, zc, zl⟩ := z
  rw [Nd.val_mk] at CAL ⊢
  rw [Nd.val_mk] at CAL
  unfold Nd.arr zeroNd at HW0
  simp only [List.length_nil] at HW0
  go_enter Try.func29, Try.ntmps29
  go_wp2_with fail
  rw [← HW0.out]
  refine CAL.out.mono ?_
  rintro e w1 ⟨rfl, hb1⟩
  have g0 := T0.out.below hb1 T0.out.lt
  have g1 := T1.out.below hb1 T1.out.lt
  have HB1 : Hid (Below w.heap.size w w1) := T2.out.trans (hb1.mono T2.out.size)
  have HS1 : Hid (w.heap.size + 2 ≤ w1.heap.size) := by unfold Hid; have := hb1.size; rw [HSZ.out] at this; exact this
  obtain ⟨⟨c0, c1, c2, c3, c4, c5⟩, e0, e1, e2, e3, e4, e5⟩ := g0.all
  have G0 := Lib.hid g0
  have G1 := Lib.hid g1
  clear hb1 T0 T1 T2 CAL HW0 HSZ g0 g1
  go_upto_region 3 with (fail)
  have hzl3 : zl.length ≤ 3000 := by
    have h1 := cntL_length zl
    have h2 := HC.out
    simp only [Nd.cnt] at h2
    omega
  obtain ⟨w2, hw2, F0⟩ : ∃ w2 : World, (((((((w1.setCell ⟨w.heap.size, 0, none⟩ (.int .i64 zop)).setCell ⟨w.heap.size, 1, none⟩ (.string zs)).setCell ⟨w.heap.size, 2, none⟩ (.int .i64 zn)).setCell ⟨w.heap.size, 3, none⟩ (.int .i64 zf)).setCell ⟨w.heap.size, 4, none⟩ (.int .i64 zt)).setCell ⟨w.heap.size, 5, none⟩ (.slice zA zl.length zc)).alloc
      (.cells #[.int .i64 zop, .string zs, .int .i64 zn, .int .i64 0, .int .i64 0, .slice none 0 0] 24)) = w2 ∧ RefI w w2 w1.heap.size (.slice none 0 0) zop zs zn zf zt zA zc zl [] := by
    have hb := below_six HB1.out (Nat.le_refl _) (.int .i64 zop) (.string zs) (.int .i64 zn) (.int .i64 zf) (.int .i64 zt) (.slice zA zl.length zc)
    have hs6 : (((((((w1.setCell ⟨w.heap.size, 0, none⟩ (.int .i64 zop)).setCell ⟨w.heap.size, 1, none⟩ (.string zs)).setCell ⟨w.heap.size, 2, none⟩ (.int .i64 zn)).setCell ⟨w.heap.size, 3, none⟩ (.int .i64 zf)).setCell ⟨w.heap.size, 4, none⟩ (.int .i64 zt)).setCell ⟨w.heap.size, 5, none⟩ (.slice zA zl.length zc))).heap.size = w1.heap.size := by simp
    refine ⟨_, rfl, (NBlk.put G0.out rfl).alloc _, (G1.out.others (by omega) _ _ _ _ _ _).alloc _, ?_, World.ownsRow_nil _ _ _ _, fun y hy => by simp at hy, hb.alloc hb.size _, HS1.out, ?_⟩
    · have := Blk.new (((((((w1.setCell ⟨w.heap.size, 0, none⟩ (.int .i64 zop)).setCell ⟨w.heap.size, 1, none⟩ (.string zs)).setCell ⟨w.heap.size, 2, none⟩ (.int .i64 zn)).setCell ⟨w.heap.size, 3, none⟩ (.int .i64 zf)).setCell ⟨w.heap.size, 4, none⟩ (.int .i64 zt)).setCell ⟨w.heap.size, 5, none⟩ (.slice zA zl.length zc))) 24 #[.int .i64 zop, .string zs, .int .i64 zn, .int .i64 0, .int .i64 0, .slice none 0 0]
      rw [hs6] at this
      exact this
    · simp
  rw [hw2]
  obtain ⟨O, hO⟩ : ∃ O, O = w1.heap.size := ⟨_, rfl⟩
  rw [← hO] at F0 ⊢
  have F0 := Lib.hid F0
  obtain ⟨i0, hi, hz0, hz1, hz2⟩ := info_parts infoNd
  clear hw2 hO G0 G1 HB1 HS1 c0 c1 c2 c3 c4 c5 e0 e1 e2 e3 e4 e5
  go_wp2_with fail
  go_loopw [4] (fun i wr => ∃ (j : Nat) (v : Value) (ys done rest : List Nd), Hid (zl = done ++ rest) ∧ Hid (ys.length = done.length) ∧ i = .int .i64 j ∧ Hid (ys.length = j) ∧ Hid (ys.map Nd.er = (done.map Nd.er).map (plainT k)) ∧ Hid (RefI w wr O v zop zs zn zf zt zA zc zl ys)) (fun i _ => zl.length - (intOf i).toNat)
  case atStart => exact ⟨0, _, [], [], zl, rfl, rfl, rfl, rfl, rfl, F0⟩
  case round =>
    obtain ⟨j, v, ys, done, rest, HL, HYL, rfl, HJ, HER, HI⟩ := hrel
    obtain ⟨f0, f1, f2, f3, f4, f5, f6, f7⟩ := HI.out
    obtain ⟨VA, vc, rfl⟩ : ∃ A c, v = .slice A ys.length c := by
      rcases f3.2 with ⟨e, e0⟩ | ⟨g, cap, cur, e, _⟩
      · exact ⟨none, 0, by rw [e, e0]⟩
      · exact ⟨_, _, e⟩
    obtain ⟨⟨c0, c1, c2, c3, c4, c5⟩, e0, e1, e2, e3, e4, e5⟩ := f0.all
    unfold zeroNd at f1
    obtain ⟨⟨d0, d1, d2, d3, d4, d5⟩, r0, r1, r2, r3, r4, r5⟩ := f1.all
    have x0 : wr.cell? ⟨O, 0, none⟩ = some (.int .i64 zop) := f2.cell 0
    have x1 : wr.cell? ⟨O, 1, none⟩ = some (.string zs) := f2.cell 1
    have x2 : wr.cell? ⟨O, 2, none⟩ = some (.int .i64 zn) := f2.cell 2
    have x3 : wr.cell? ⟨O, 3, none⟩ = some (.int .i64 0) := f2.cell 3
    have x4 : wr.cell? ⟨O, 4, none⟩ = some (.int .i64 0) := f2.cell 4
    have x5 : wr.cell? ⟨O, 5, none⟩ = some (.slice VA ys.length vc) := f2.cell 5
    have y5 : wr.frozen? ⟨O, 5, none⟩ = false := f2.frozen 5
    cases rest with
    | nil =>
      have hyl : ys.length = zl.length := by have h1 := HL.out; have h2 := HYL.out; rw [h1]; simp; omega
      have hlt : ¬ ((j : Int) < (zl.length : Int)) := by have := HJ.out; omega
      have HN : Hid (RefP pt w (.returned (Nd.mk zop zs zn 0 0 VA vc ys).val) ((((((wr.setCell ⟨w.heap.size + 1, 0, none⟩ (.int .i64 zop)).setCell ⟨w.heap.size + 1, 1, none⟩ (.string zs)).setCell ⟨w.heap.size + 1, 2, none⟩ (.int .i64 zn)).setCell ⟨w.heap.size + 1, 3, none⟩ (.int .i64 0)).setCell ⟨w.heap.size + 1, 4, none⟩ (.int .i64 0)).setCell ⟨w.heap.size + 1, 5, none⟩ (.slice VA ys.length vc))) := by
        have hdone : zl = done := by have := HL.out; simpa using this
        have hge : (Nd.mk zop zs zn 0 0 VA vc ys).Ge (w.heap.size + 2) := by
          unfold Nd.Ge
          exact ⟨fun a e => by subst e; have := (f3.lt a.block rfl).1; omega, Nd.AllGe.of fun y hy => Nd.Ge.less (by omega) y (f4 y hy).2.2⟩
        refine ⟨_, rfl, ?_, ?_, Nd.Ge.less (by omega) _ hge, below_six f5 (by omega) _ _ _ _ _ _⟩
        · rw [HPT.out, Nd.er_mk, HER.out, hdone]; rfl
        · have hin : (Nd.mk zop zs zn 0 0 VA vc ys).In wr wr.heap.size := NdSl.nd ⟨Rd.of_own f3, by omega, Nd.AllIn.of fun y hy => (f4 y hy).1⟩
          refine Nd.In.keepGe (B0 := w.heap.size + 2) (fun b o hb _ => ?_) (by simp) _ hge hin
          have hgr : wr.grownBy ((((((wr.setCell ⟨w.heap.size + 1, 0, none⟩ (.int .i64 zop)).setCell ⟨w.heap.size + 1, 1, none⟩ (.string zs)).setCell ⟨w.heap.size + 1, 2, none⟩ (.int .i64 zn)).setCell ⟨w.heap.size + 1, 3, none⟩ (.int .i64 0)).setCell ⟨w.heap.size + 1, 4, none⟩ (.int .i64 0)).setCell ⟨w.heap.size + 1, 5, none⟩ (.slice VA ys.length vc)) (some (w.heap.size + 1)) :=
            grownBy_trans (grownBy_trans (grownBy_trans (grownBy_trans (grownBy_trans (grownBy_setCellJ _ _ _ _) (grownBy_setCellJ _ _ _ _)) (grownBy_setCellJ _ _ _ _)) (grownBy_setCellJ _ _ _ _)) (grownBy_setCellJ _ _ _ _)) (grownBy_setCellJ _ _ _ _)
          exact World.cell?_of_block (hgr.block b (by assumption) (fun e => by injection e with e; omega))
      have HYZ := Lib.hid hyl
      clear HPT HC HD HZ IH HER HL HYL HI f0 f1 f2 f3 f4 f5 hyl F0
      go_wp2_with fail
      refine bodyPost_ret (v := (Nd.mk zop zs zn 0 0 VA vc ys).val) ?_ rfl ?_
      · rw [results_cell1 rfl]
        rw [Nd.val_mk]
        go_simp
      · exact HN.out
    | cons z rest =>
      have hzm : z ∈ zl := by rw [HL.out]; simp
      have hjl : j < zl.length := by have h1 := HL.out; have h2 := HYL.out; have h3 := HJ.out; rw [h1]; simp; omega
      have hgz : zl[j] = z := by
        have h1 := HL.out; have h2 := HYL.out; have h3 := HJ.out
        subst h1
        rw [List.getElem_append_right (by omega)]
        simp [show j - done.length = 0 by omega]
      have hlt : (j : Int) < (zl.length : Int) := by omega
      have hlt0 : (0 : Int) ≤ (j : Int) := by omega
      cases k with
      | zero =>
        have := deepB_nil HD.out
        simp only [Nd.l] at this
        rw [this] at hzm
        simp at hzm
      | succ k =>
      have hzd : deepB k z.l = false := deepB_part HD.out z hzm
      have hzc : z.cnt ≤ 3000 := by
        have h1 := cntL_mem hzm
        have h2 := HC.out
        simp only [Nd.cnt] at h2
        omega
      have hzi : z.In w w.heap.size := HZ.out.sl.2.2.mem z hzm
      obtain ⟨b, off, hA, hB, p0, p1, p2, p3, p4, p5, _⟩ := (HZ.out.sl.below f5 f5.size).at_ j hjl
      rw [hgz] at p0 p1 p2 p3 p4 p5
      have I1 : Hid (RefI w wr.drew O (.slice VA ys.length vc) zop zs zn zf zt zA zc zl ys) := HI.out.after ((Below.refl _ _).drew)
      have cal := (IH.out k rfl z wr.drew hzd hzc (hzi.below I1.out.2.2.2.2.2.1 I1.out.2.2.2.2.2.1.size)).mono (R' := fun e w' => ∃ y : Nd, e = .returned y.val ∧ y.er = plainT (k + 1) z.er ∧ y.In w' w'.heap.size ∧ y.Ge wr.heap.size ∧ RefI w w' O (.slice VA ys.length vc) zop zs zn zf zt zA zc zl ys)
        (fun e w' ⟨y, h1, h2, h3, h4, h5⟩ => ⟨y, h1, h2, h3, h4, I1.out.after h5⟩)
      have hyl : ys.length ≤ 3000 := by have := HJ.out; omega
      have hvo : ∀ q, Value.ownBlock (.slice VA ys.length vc) = some q → q < wr.heap.size := fun q e => (f3.lt q e).2
      have HVO := Lib.hid hvo
      subst hA
      obtain ⟨op1, s1, n1, f1_, t1, A1, l1c, l1⟩ := z
      rw [Nd.val_mk] at cal
      have CP := Lib.hid cal
      simp only [Nd.A, Nd.c, Nd.l, Nd.op, Nd.s, Nd.n, Nd.f, Nd.t] at p0 p1 p2 p3 p4 p5
      have HF7 := Lib.hid f7
      clear cal hzd hzc hzi hzm hgz hvo HPT HC HD HZ IH f0 f1 f2 f3 f4 f5 f7 F0
      go_wp2_with fail
      go_region_law (first
        | (refine step_append_lies _ (by rfl) _ _ _ (by rfl) (O + 1) 24 i0 _ 6 72 Try.underlying22 hi hz0 hz1 hz2 rfl (by omega) (.slice VA ys.length vc) ys.length (cellsN ys) (by rfl) (I6.out.2.2.2.1.alloc _) ⟨w6.heap.size, 0, none⟩ 1 1 [.int .i64 yop, .string ys1, .int .i64 yn, .int .i64 yf, .int .i64 yt, .slice yA yl.length yc] (by rfl) (by rfl) (World.news_of_block (cs := #[.int .i64 yop, .string ys1, .int .i64 yn, .int .i64 yf, .int .i64 yt, .slice yA yl.length yc]) (t := 24) (fr := (0, 0)) (heap_alloc_new w6 _)) (by simp [Value.oneCell']) (by omega) (by unfold maxLen; omega) (by omega) (by have := I6.out.2.2.2.2.2.2.2; simp; omega) (w6.heap.size + 1) (by simp) ?_; intro gg cap w7 hown7 hg7 hat7 hlt7; have g7 := Blk.kept (I6.out.2.2.1.alloc _) hg7 (fun e => by have := (I6.out.2.2.2.1.lt O e.symm).1; omega); have zz5 : w7.cell? ⟨O, 5, none⟩ = some (.slice VA ys.length vc) := g7.cell 5; have zzf5 : w7.frozen? ⟨O, 5, none⟩ = false := g7.frozen 5; have HO7 := Lib.hid hown7; have HG7 := Lib.hid hg7; have HAT7 := Lib.hid hat7; clear hown7 hg7 hat7 g7)
        | (go_simp; go_at_call 29; refine CP.out.mono ?_; rintro e w6 ⟨y, rfl, her, hin, hge, hI6⟩; have HER2 := Lib.hid her; have HIN := Lib.hid hin; have HGE := Lib.hid hge; have I6 := Lib.hid hI6; have z5 : w6.cell? ⟨O, 5, none⟩ = some (.slice VA ys.length vc) := hI6.2.2.1.cell 5; have zf5 : w6.frozen? ⟨O, 5, none⟩ = false := hI6.2.2.1.frozen 5; have b5 := hI6.1.cells.2.2.2.2.2; have zO : O < w6.heap.size := hI6.2.2.2.2.2.2.2; have zO2 : ¬ O = w6.heap.size := Nat.ne_of_lt zO; obtain ⟨yop, ys1, yn, yf, yt, yA, yc, yl⟩ := y; rw [Nd.val_mk]; clear her hin hge hI6))
      all_goals
        go_wp2_with fail
        go_roundw
        case rel =>
          have hb6 : Below w6.heap.size w6 (w6.alloc (.cells #[.int .i64 yop, .string ys1, .int .i64 yn, .int .i64 yf, .int .i64 yt, .slice yA yl.length yc] 24)) := (Below.refl _ _).alloc (Nat.le_refl _) _
          have hpush := RefI.push (y := .mk yop ys1 yn yf yt yA yc yl) (I6.out.after hb6) (HIN.out.below hb6 hb6.size) (fun q e => Nd.Ge.off (HVO.out q e) _ HGE.out) (Nd.Ge.less (by have := HF7.out; omega) _ HGE.out) HO7.out HG7.out (fun q e => by
            cases e
            rcases HAT7.out with e | e
            · exact .inl e
            · exact .inr (by simp; omega))
          refine ⟨j + 1, .slice (some ⟨gg, 0, none⟩) (ys.length + 1) cap, ys ++ [Nd.mk yop ys1 yn yf yt yA yc yl], done ++ [Nd.mk op1 s1 n1 f1_ t1 A1 l1c l1], rest, ?_, ?_, by go_num, ?_, ?_, Lib.hid hpush⟩
          · unfold Hid; rw [HL.out]; simp
          · unfold Hid; have := HYL.out; simp [this]
          · unfold Hid; have := HJ.out; simp [this]
          · unfold Hid; rw [List.map_append, HER.out, List.map_append, List.map_append]; simp [HER2.out]
        case measure => simp [intOf]; omega

theorem refPlain_any : ∀ (k : Nat) (x : Nd) (w : World), deepB k x.l = false → x.cnt ≤ 3000 → x.In w w.heap.size → Calls Try.prog 29 #[x.val] w (RefP (plainT (k + 1) x.er) w)
  | 0, x, w, hd, hc, h => refPlain_one 0 x w hd hc h fun k' e => by omega
  | k + 1, x, w, hd, hc, h => refPlain_one (k + 1) x w hd hc h fun k' e z w' hd' hc' h' => by
    obtain rfl : k = k' := by omega
    exact refPlain_any k z w' hd' hc' h'

end Go.Proofs.Ytcndfihcjaoifaa
