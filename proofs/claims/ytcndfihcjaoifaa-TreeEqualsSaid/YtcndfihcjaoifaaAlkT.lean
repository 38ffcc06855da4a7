/- tree.Alike tells whether two trees are alike. -/
import Derived.Test.YtcndfihcjaoifaaPlT
import Derived.Deep.DeepCutAuto
import Derived.Deep.RegionWith
import Derived.Deep.RegionHeld3

namespace Go.Proofs.Ytcndfihcjaoifaa
open Go.RowKit

theorem bytes_ext {a b : ByteArray} (h : a.toList = b.toList) : a = b := by
  rw [ByteArray.toList_eq, ByteArray.toList_eq] at h
  obtain ⟨⟨x⟩⟩ := a
  obtain ⟨⟨y⟩⟩ := b
  simp at h
  rw [h]

/-- two blocks of nodes side by side, nothing old has turned -/
def Two (w W : World) (p : Nat) (x y : Nd) : Prop := NBlk W p x ∧ NBlk W (p + 1) y ∧ Below w.heap.size w W

theorem Two.after {w W W' : World} {p : Nat} {x y : Nd} (h : Two w W p x y) (hb : Below W.heap.size W W') : Two w W' p x y :=
  ⟨h.1.below hb h.1.lt, h.2.1.below hb h.2.1.lt, h.2.2.trans (hb.mono h.2.2.size)⟩

theorem Two.drew {w W : World} {p : Nat} {x y : Nd} (h : Two w W p x y) : Two w W.drew p x y := ⟨h.1, h.2.1, ⟨h.2.2.os, h.2.2.tape, h.2.2.output, h.2.2.size, h.2.2.block⟩⟩

/-- what the walk reads of a block -/
def NC (W : World) (p : Nat) (op : Int) (s : ByteArray) (n f t : Int) (v : Value) : Prop :=
  W.cell? ⟨p, 0, none⟩ = some (.int .i64 op) ∧ W.cell? ⟨p, 1, none⟩ = some (.string s) ∧ W.cell? ⟨p, 2, none⟩ = some (.int .i64 n) ∧ W.cell? ⟨p, 3, none⟩ = some (.int .i64 f) ∧ W.cell? ⟨p, 4, none⟩ = some (.int .i64 t) ∧ W.cell? ⟨p, 5, none⟩ = some v ∧
  W.frozen? ⟨p, 0, none⟩ = false ∧ W.frozen? ⟨p, 1, none⟩ = false ∧ W.frozen? ⟨p, 2, none⟩ = false ∧ W.frozen? ⟨p, 3, none⟩ = false ∧ W.frozen? ⟨p, 4, none⟩ = false ∧ W.frozen? ⟨p, 5, none⟩ = false

theorem NBlk.nc {w : World} {B : Nat} {op : Int} {s : ByteArray} {n f t : Int} {A : Option Addr} {c : Nat} {l : List Nd} (h : NBlk w B (.mk op s n f t A c l)) : NC w B op s n f t (.slice A l.length c) :=
  ⟨h.cell 0, h.cell 1, h.cell 2, h.cell 3, h.cell 4, h.cell 5, h.frozen 0, h.frozen 1, h.frozen 2, h.frozen 3, h.frozen 4, h.frozen 5⟩

theorem Two.put {w W : World} {p : Nat} {x y : Nd} (h : Two w W p x y) (hp : w.heap.size ≤ p) (op : Int) (s : ByteArray) (n f t : Int) (A : Option Addr) (c : Nat) (l : List Nd) (op' : Int) (s' : ByteArray) (n' f' t' : Int) (A' : Option Addr) (c' : Nat) (l' : List Nd) :
    Two w ((((((((((((W.setCell ⟨p, 0, none⟩ (.int .i64 op)).setCell ⟨p, 1, none⟩ (.string s)).setCell ⟨p, 2, none⟩ (.int .i64 n)).setCell ⟨p, 3, none⟩ (.int .i64 f)).setCell ⟨p, 4, none⟩ (.int .i64 t)).setCell ⟨p, 5, none⟩ (.slice A l.length c)).setCell ⟨p + 1, 0, none⟩ (.int .i64 op')).setCell ⟨p + 1, 1, none⟩ (.string s')).setCell ⟨p + 1, 2, none⟩ (.int .i64 n')).setCell ⟨p + 1, 3, none⟩ (.int .i64 f')).setCell ⟨p + 1, 4, none⟩ (.int .i64 t')).setCell ⟨p + 1, 5, none⟩ (.slice A' l'.length c')) p (.mk op s n f t A c l) (.mk op' s' n' f' t' A' c' l') :=
  ⟨(NBlk.put h.1 rfl).others (by omega) _ _ _ _ _ _, NBlk.put (h.2.1.others (by omega) _ _ _ _ _ _) rfl, below_six (below_six h.2.2 hp _ _ _ _ _ _) (by omega) _ _ _ _ _ _⟩

set_option maxHeartbeats 2000000 in
set_option maxRecDepth 100000 in
theorem alike_one (k : Nat) (a b : Nd) (w : World) (ha : a.In w w.heap.size) (hb : b.In w w.heap.size)
    (ih : ∀ x ∈ a.bare.l, ∀ y ∈ b.bare.l, ∀ w : World, x.In w w.heap.size → y.In w w.heap.size → Calls Try.prog 26 #[x.val, y.val] w fun e w' => e = .returned (.bool (alk k x y)) ∧ Below w.heap.size w w') :
    Calls Try.prog 26 #[a.val, b.val] w fun e w' => e = .returned (.bool (alk (k + 1) a b)) ∧ Below w.heap.size w w' := by
    have HA := Lib.hid (Nd.bare_in a ha)
    have HB := Lib.hid (Nd.bare_in b hb)
    have IH := Lib.hid ih
    have HS := Lib.hid (alk_step k a b)
    have T0 := Lib.hid (show Two w ((w.alloc (.cells a.arr 24)).alloc (.cells b.arr 24)) w.heap.size a b from
      ⟨(Blk.new w _ _).alloc _, by have := Blk.new (w.alloc (.cells a.arr 24)) 24 b.arr; simpa [NBlk] using this, ((Below.refl _ _).alloc (Nat.le_refl _) _).alloc (by simp) _⟩)
    have cA := fun (W : World) (hW : Two w W w.heap.size a b) => inside_any a W (ha.below hW.2.2 hW.2.2.size)
    have cB := fun (W : World) (hW : Two w W w.heap.size a b) => inside_any b W (hb.below hW.2.2 hW.2.2.size)
    clear ha hb ih
    generalize a.bare = za at *
    generalize b.bare = zb at *
    obtain ⟨r, hr⟩ : ∃ r, r = alk (k + 1) a b := ⟨_, rfl⟩
    rw [← hr] at HS ⊢
    clear hr
    obtain ⟨op, s, n, f, t, A, c, l⟩ := a
    obtain ⟨op', s', n', f', t', A', c', l'⟩ := b
    obtain ⟨zop, zs, zn, zf, zt, zA, zc, zl⟩ := za
    obtain ⟨yop, ys, yn, yf, yt, yA, yc, yl⟩ := zb
    rw [Nd.val_mk, Nd.val_mk]
    simp only [Nd.val_mk, Nd.arr] at cA cB T0
    have CA := fun (W : World) (hW : Two w W w.heap.size (.mk op s n f t A c l) (.mk op' s' n' f' t' A' c' l')) => Calls.mono (cA W hW) (fun e w' (h : e = .returned (.agg #[.int .i64 zop, .string zs, .int .i64 zn, .int .i64 zf, .int .i64 zt, .slice zA zl.length zc]) ∧ Below W.heap.size W w') => (⟨h.1, Lib.hid (hW.after h.2), (hW.after h.2).1.nc, (hW.after h.2).2.1.nc⟩ : e = .returned (.agg #[.int .i64 zop, .string zs, .int .i64 zn, .int .i64 zf, .int .i64 zt, .slice zA zl.length zc]) ∧ Hid (Two w w' w.heap.size (.mk op s n f t A c l) (.mk op' s' n' f' t' A' c' l')) ∧ NC w' w.heap.size op s n f t (.slice A l.length c) ∧ NC w' (w.heap.size + 1) op' s' n' f' t' (.slice A' l'.length c')))
    have CB := fun (W : World) (hW : Two w W w.heap.size (.mk op s n f t A c l) (.mk op' s' n' f' t' A' c' l')) => Calls.mono (cB W hW) (fun e w' (h : e = .returned (.agg #[.int .i64 yop, .string ys, .int .i64 yn, .int .i64 yf, .int .i64 yt, .slice yA yl.length yc]) ∧ Below W.heap.size W w') => (⟨h.1, Lib.hid (hW.after h.2), (hW.after h.2).1.nc, (hW.after h.2).2.1.nc⟩ : e = .returned (.agg #[.int .i64 yop, .string ys, .int .i64 yn, .int .i64 yf, .int .i64 yt, .slice yA yl.length yc]) ∧ Hid (Two w w' w.heap.size (.mk op s n f t A c l) (.mk op' s' n' f' t' A' c' l')) ∧ NC w' w.heap.size op s n f t (.slice A l.length c) ∧ NC w' (w.heap.size + 1) op' s' n' f' t' (.slice A' l'.length c')))
    have HCA := Lib.hid CA
    have HCB := Lib.hid CB
    clear cA cB CA CB
    go_enter Try.func26, Try.ntmps26
    go_upto_region 1 with (fail)
    go_cut [] (fun wx => Hid (Two w wx w.heap.size (.mk zop zs zn zf zt zA zc zl) (.mk yop ys yn yf yt yA yc yl)))
    case first =>
      go_region_with (go_at_call 47; first
        | ((with_reducible refine (HCA.out _ ?_).mono ?_); (first | exact T0.out.drew | exact Hid.out ‹_›); (rintro e w1 ⟨rfl, H1, ⟨g0, g1, g2, g3, g4, g5, h0, h1, h2, h3, h4, h5⟩, ⟨k0, k1, k2, k3, k4, k5, m0, m1, m2, m3, m4, m5⟩⟩))
        | ((with_reducible refine (HCB.out _ ?_).mono ?_); (first | exact T0.out.drew | exact Hid.out ‹_›); (rintro e w1 ⟨rfl, H1, ⟨g0, g1, g2, g3, g4, g5, h0, h1, h2, h3, h4, h5⟩, ⟨k0, k1, k2, k3, k4, k5, m0, m1, m2, m3, m4, m5⟩⟩)))
      all_goals
        go_wp2_with fail
        go_meet
        exact Two.put (Hid.out ‹_›) (Nat.le_refl _) _ _ _ _ _ _ _ _ _ _ _ _ _ _ _ _
    case rest =>
      have H1 := hcut
      clear hcut T0 HCA HCB
      obtain ⟨g0, g1, g2, g3, g4, g5, h0, h1, h2, h3, h4, h5⟩ := H1.out.1.nc
      obtain ⟨k0, k1, k2, k3, k4, k5, m0, m1, m2, m3, m4, m5⟩ := H1.out.2.1.nc
      have cL := fun (x : Nd) (W : World) (hW : Two w W w.heap.size (.mk zop zs zn zf zt zA zc zl) (.mk yop ys yn yf yt yA yc yl)) => (labelOf_any x W).mono (fun e w' (h : e = .returned (.agg #[.int .i64 x.op, .string x.s, .int .i64 x.n]) ∧ Below W.heap.size W w') => (⟨h.1, Lib.hid (hW.after h.2), (hW.after h.2).1.nc, (hW.after h.2).2.1.nc⟩ : e = .returned (.agg #[.int .i64 x.op, .string x.s, .int .i64 x.n]) ∧ Hid (Two w w' w.heap.size (.mk zop zs zn zf zt zA zc zl) (.mk yop ys yn yf yt yA yc yl)) ∧ NC w' w.heap.size zop zs zn zf zt (.slice zA zl.length zc) ∧ NC w' (w.heap.size + 1) yop ys yn yf yt (.slice yA yl.length yc)))
      have cL1 := cL (.mk zop zs zn zf zt zA zc zl)
      have cL2 := cL (.mk yop ys yn yf yt yA yc yl)
      simp only [Nd.val_mk, Nd.op, Nd.s, Nd.n] at cL1 cL2
      have CL1 := Lib.hid cL1
      have CL2 := Lib.hid cL2
      clear cL cL1 cL2
      by_cases q1 : zop = yop
      · by_cases q2 : zs = ys
        · by_cases q3 : zn = yn
          · subst q1 q2 q3
            have HR : Hid (r = eqBy (alk k) zl yl) := by unfold Hid; rw [HS.out]; simp [Nd.op, Nd.s, Nd.n, Nd.l]
            have CE := fun (W : World) (hW : Two w W w.heap.size (.mk zop zs zn zf zt zA zc zl) (.mk zop zs zn yf yt yA yc yl)) => (equalFunc_any (alk k) zA yA zc yc zl yl W (HA.out.sl.below hW.2.2 hW.2.2.size) (HB.out.sl.below hW.2.2 hW.2.2.size) IH.out).mono (fun e w' (h : e = .returned (.bool (eqBy (alk k) zl yl)) ∧ Below W.heap.size W w') => (⟨h.1, Lib.hid (hW.after h.2)⟩ : e = .returned (.bool (eqBy (alk k) zl yl)) ∧ Hid (Two w w' w.heap.size (.mk zop zs zn zf zt zA zc zl) (.mk zop zs zn yf yt yA yc yl))))
            rw [← HR.out] at CE
            have HCE := Lib.hid CE
            clear CE HR HS IH HA HB
            go_wp2_with fail
            go_region_held3 (fun w' => w'.cell? ⟨w.heap.size, 0, none⟩ = some (.int .i64 zop) ∧ w'.cell? ⟨w.heap.size, 1, none⟩ = some (.string zs) ∧ w'.cell? ⟨w.heap.size, 2, none⟩ = some (.int .i64 zn) ∧ w'.cell? ⟨w.heap.size, 3, none⟩ = some (.int .i64 zf) ∧ w'.cell? ⟨w.heap.size, 4, none⟩ = some (.int .i64 zt) ∧ w'.cell? ⟨w.heap.size, 5, none⟩ = some (.slice zA zl.length zc) ∧
              w'.cell? ⟨w.heap.size + 1, 0, none⟩ = some (.int .i64 zop) ∧ w'.cell? ⟨w.heap.size + 1, 1, none⟩ = some (.string zs) ∧ w'.cell? ⟨w.heap.size + 1, 2, none⟩ = some (.int .i64 zn) ∧ w'.cell? ⟨w.heap.size + 1, 3, none⟩ = some (.int .i64 yf) ∧ w'.cell? ⟨w.heap.size + 1, 4, none⟩ = some (.int .i64 yt) ∧ w'.cell? ⟨w.heap.size + 1, 5, none⟩ = some (.slice yA yl.length yc) ∧
              Hid (Two w w' w.heap.size (.mk zop zs zn zf zt zA zc zl) (.mk zop zs zn yf yt yA yc yl)))
              (first
                | exact ⟨g0, g1, g2, g3, g4, g5, k0, k1, k2, k3, k4, k5, Lib.hid H1.out.drew⟩
                | exact ⟨g0, g1, g2, g3, g4, g5, k0, k1, k2, k3, k4, k5, H2⟩
                | go_keep)
              (first
                | (go_at_call 48; go_split_ands; (with_reducible refine (CL1.out _ ?_).mono ?_); (exact Hid.out ‹_›); (rintro e w1 ⟨rfl, H2, ⟨g0, g1, g2, g3, g4, g5, h0, h1, h2, h3, h4, h5⟩, ⟨k0, k1, k2, k3, k4, k5, m0, m1, m2, m3, m4, m5⟩⟩))
                | (go_at_call 48; go_split_ands; (with_reducible refine (CL2.out _ ?_).mono ?_); (exact Hid.out ‹_›); (rintro e w1 ⟨rfl, H2, ⟨g0, g1, g2, g3, g4, g5, h0, h1, h2, h3, h4, h5⟩, ⟨k0, k1, k2, k3, k4, k5, m0, m1, m2, m3, m4, m5⟩⟩))
                | (go_at_call 49; go_split_ands; (with_reducible refine (HCE.out _ ?_).mono ?_); (exact Hid.out ‹_›); (rintro e w1 ⟨rfl, H2⟩; obtain ⟨g0, g1, g2, g3, g4, g5, h0, h1, h2, h3, h4, h5⟩ := H2.out.1.nc; obtain ⟨k0, k1, k2, k3, k4, k5, m0, m1, m2, m3, m4, m5⟩ := H2.out.2.1.nc)))
            go_wp2_with fail
            go_ret
            exact ⟨rfl, H2.out.2.2⟩
          · have b1 : (zop == yop) = true := by simpa using q1
            have b2 : (zs.toList == ys.toList) = true := by simp [q2]
            have b3 : (zn == yn) = false := by simpa using q3
            have HR : Hid (r = false) := by unfold Hid; rw [HS.out]; simp [Nd.op, Nd.n, q3]
            clear q1 q2 q3
            go_wp2_with fail
            first | (go_region_with (go_at_call 48; first
          | ((with_reducible refine (CL1.out _ ?_).mono ?_); (first | exact H1.out.drew | exact Hid.out ‹_›); (rintro e w1 ⟨rfl, H2, ⟨g0, g1, g2, g3, g4, g5, h0, h1, h2, h3, h4, h5⟩, ⟨k0, k1, k2, k3, k4, k5, m0, m1, m2, m3, m4, m5⟩⟩))
          | ((with_reducible refine (CL2.out _ ?_).mono ?_); (first | exact H1.out.drew | exact Hid.out ‹_›); (rintro e w1 ⟨rfl, H2, ⟨g0, g1, g2, g3, g4, g5, h0, h1, h2, h3, h4, h5⟩, ⟨k0, k1, k2, k3, k4, k5, m0, m1, m2, m3, m4, m5⟩⟩)))) | fail
            all_goals
              go_wp2_with fail
              simp only [Act.put, List.getElem_toArray, List.getElem_cons_succ, List.getElem_cons_zero, List.setIfInBounds_toArray, List.set_cons_zero, List.set_cons_succ]
              go_ret
              exact ⟨ret_bool HR.out.symm, H2.out.2.2⟩
        · have b1 : (zop == yop) = true := by simpa using q1
          have b2 : (zs.toList == ys.toList) = false := by rw [beq_eq_false_iff_ne]; exact fun e => q2 (bytes_ext e)
          have HR : Hid (r = false) := by unfold Hid; rw [HS.out]; simp [Nd.op, Nd.s, q2]
          clear q1 q2
          go_wp2_with fail
          first | (go_region_with (go_at_call 48; first
          | ((with_reducible refine (CL1.out _ ?_).mono ?_); (first | exact H1.out.drew | exact Hid.out ‹_›); (rintro e w1 ⟨rfl, H2, ⟨g0, g1, g2, g3, g4, g5, h0, h1, h2, h3, h4, h5⟩, ⟨k0, k1, k2, k3, k4, k5, m0, m1, m2, m3, m4, m5⟩⟩))
          | ((with_reducible refine (CL2.out _ ?_).mono ?_); (first | exact H1.out.drew | exact Hid.out ‹_›); (rintro e w1 ⟨rfl, H2, ⟨g0, g1, g2, g3, g4, g5, h0, h1, h2, h3, h4, h5⟩, ⟨k0, k1, k2, k3, k4, k5, m0, m1, m2, m3, m4, m5⟩⟩)))) | fail
          all_goals
            go_wp2_with fail
            simp only [Act.put, List.getElem_toArray, List.getElem_cons_succ, List.getElem_cons_zero, List.setIfInBounds_toArray, List.set_cons_zero, List.set_cons_succ]
            go_ret
            exact ⟨ret_bool HR.out.symm, H2.out.2.2⟩
      · have b1 : (zop == yop) = false := by simpa using q1
        have HR : Hid (r = false) := by unfold Hid; rw [HS.out]; simp [Nd.op, q1]
        clear q1
        go_wp2_with fail
        first | (go_region_with (go_at_call 48; first
          | ((with_reducible refine (CL1.out _ ?_).mono ?_); (first | exact H1.out.drew | exact Hid.out ‹_›); (rintro e w1 ⟨rfl, H2, ⟨g0, g1, g2, g3, g4, g5, h0, h1, h2, h3, h4, h5⟩, ⟨k0, k1, k2, k3, k4, k5, m0, m1, m2, m3, m4, m5⟩⟩))
          | ((with_reducible refine (CL2.out _ ?_).mono ?_); (first | exact H1.out.drew | exact Hid.out ‹_›); (rintro e w1 ⟨rfl, H2, ⟨g0, g1, g2, g3, g4, g5, h0, h1, h2, h3, h4, h5⟩, ⟨k0, k1, k2, k3, k4, k5, m0, m1, m2, m3, m4, m5⟩⟩)))) | fail
        all_goals
          go_wp2_with fail
          simp only [Act.put, List.getElem_toArray, List.getElem_cons_succ, List.getElem_cons_zero, List.setIfInBounds_toArray, List.set_cons_zero, List.set_cons_succ]
          go_ret
          exact ⟨ret_bool HR.out.symm, H2.out.2.2⟩

theorem alike_any : ∀ (k : Nat) (a b : Nd) (w : World), deepB k a.l = false → deepB k b.l = false → a.In w w.heap.size → b.In w w.heap.size →
    Calls Try.prog 26 #[a.val, b.val] w fun e w' => e = .returned (.bool (alk (k + 1) a b)) ∧ Below w.heap.size w w'
  | 0, a, b, w, hda, _, ha, hb => alike_one 0 a b w ha hb fun x hx => by
    rw [deepB_nil (Nd.bare_deep a hda)] at hx
    simp at hx
  | k + 1, a, b, w, hda, hdb, ha, hb => alike_one (k + 1) a b w ha hb fun x hx y hy w' hx' hy' =>
    alike_any k x y w' (deepB_part (Nd.bare_deep a hda) x hx) (deepB_part (Nd.bare_deep b hdb) y hy) hx' hy'

end Go.Proofs.Ytcndfihcjaoifaa
