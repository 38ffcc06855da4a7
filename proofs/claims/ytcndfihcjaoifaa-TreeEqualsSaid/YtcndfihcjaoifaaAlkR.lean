/- The document's Alike tells whether two trees are alike. -/
import Derived.Test.YtcndfihcjaoifaaAlkT
import Derived.StillTailTactics

namespace Go.Proofs.Ytcndfihcjaoifaa
open Go.RowKit

set_option maxHeartbeats 2000000 in
set_option maxRecDepth 100000 in
theorem refAlike_one (k : Nat) (a b : Nd) (w : World) (ha : a.In w w.heap.size) (hb : b.In w w.heap.size)
    (ih : ∀ x ∈ a.bare.l, ∀ y ∈ b.bare.l, ∀ w : World, x.In w w.heap.size → y.In w w.heap.size → Calls Try.prog 27 #[x.val, y.val] w fun e w' => e = .returned (.bool (alk k x y)) ∧ Below w.heap.size w w') :
    Calls Try.prog 27 #[a.val, b.val] w fun e w' => e = .returned (.bool (alk (k + 1) a b)) ∧ Below w.heap.size w w' := by
    have HA := Lib.hid (Nd.bare_in a ha)
    have HB := Lib.hid (Nd.bare_in b hb)
    have IH := Lib.hid ih
    have HS := Lib.hid (alk_step k a b)
    have T0 := Lib.hid (show Two w ((w.alloc (.cells a.arr 24)).alloc (.cells b.arr 24)) w.heap.size a b from
      ⟨(Blk.new w _ _).alloc _, by have := Blk.new (w.alloc (.cells a.arr 24)) 24 b.arr; simpa [NBlk] using this, ((Below.refl _ _).alloc (Nat.le_refl _) _).alloc (by simp) _⟩)
    have cA := fun (W : World) (hW : Two w W w.heap.size a b) => bareR_any a W (ha.below hW.2.2 hW.2.2.size)
    have cB := fun (W : World) (hW : Two w W w.heap.size a b) => bareR_any b W (hb.below hW.2.2 hW.2.2.size)
    clear ha hb ih
    generalize a.bare = za at *
    generalize b.bare = zb at *
    obtain ⟨r, hr⟩ : ∃ r, r = alk (k + 1) a b := ⟨_, rfl⟩
    rw [← hr] at HS ⊢
    clear hr
    obtain ⟨op, s, n, f, t, A, c, l⟩ := a
    obtain ⟨op', s', n', f', t', A', c', l'⟩ := b
    obtain ⟨zop, zs, zn, zf, zt, zA, zc, zl⟩ := za
    obtain ⟨yop, ys, yn, yf, yt, yA, yc, yl⟩ := zb
    rw [Nd.val_mk, Nd.val_mk]
    simp only [Nd.val_mk, Nd.arr] at cA cB T0
    have CA := fun (W : World) (hW : Two w W w.heap.size (.mk op s n f t A c l) (.mk op' s' n' f' t' A' c' l')) => Calls.mono (cA W hW) (fun e w' (h : e = .returned (.agg #[.int .i64 zop, .string zs, .int .i64 zn, .int .i64 zf, .int .i64 zt, .slice zA zl.length zc]) ∧ Below W.heap.size W w') => (⟨h.1, Lib.hid (hW.after h.2), (hW.after h.2).1.nc, (hW.after h.2).2.1.nc⟩ : e = .returned (.agg #[.int .i64 zop, .string zs, .int .i64 zn, .int .i64 zf, .int .i64 zt, .slice zA zl.length zc]) ∧ Hid (Two w w' w.heap.size (.mk op s n f t A c l) (.mk op' s' n' f' t' A' c' l')) ∧ NC w' w.heap.size op s n f t (.slice A l.length c) ∧ NC w' (w.heap.size + 1) op' s' n' f' t' (.slice A' l'.length c')))
    have CB := fun (W : World) (hW : Two w W w.heap.size (.mk op s n f t A c l) (.mk op' s' n' f' t' A' c' l')) => Calls.mono (cB W hW) (fun e w' (h : e = .returned (.agg #[.int .i64 yop, .string ys, .int .i64 yn, .int .i64 yf, .int .i64 yt, .slice yA yl.length yc]) ∧ Below W.heap.size W w') => (⟨h.1, Lib.hid (hW.after h.2), (hW.after h.2).1.nc, (hW.after h.2).2.1.nc⟩ : e = .returned (.agg #[.int .i64 yop, .string ys, .int .i64 yn, .int .i64 yf, .int .i64 yt, .slice yA yl.length yc]) ∧ Hid (Two w w' w.heap.size (.mk op s n f t A c l) (.mk op' s' n' f' t' A' c' l')) ∧ NC w' w.heap.size op s n f t (.slice A l.length c) ∧ NC w' (w.heap.size + 1) op' s' n' f' t' (.slice A' l'.length c')))
    have HCA := Lib.hid CA
    have HCB := Lib.hid CB
    clear cA cB CA CB
    go_enter Try.func27, Try.ntmps27
    go_upto_region 1 with (fail)
    go_cut [] (fun wx => Hid (Two w wx w.heap.size (.mk zop zs zn zf zt zA zc zl) (.mk yop ys yn yf yt yA yc yl)))
    case first =>
      go_region_with (go_at_call 50; first
        | ((with_reducible refine (HCA.out _ ?_).mono ?_); (first | exact T0.out.drew | exact Hid.out ‹_›); (rintro e w1 ⟨rfl, H1, ⟨g0, g1, g2, g3, g4, g5, h0, h1, h2, h3, h4, h5⟩, ⟨k0, k1, k2, k3, k4, k5, m0, m1, m2, m3, m4, m5⟩⟩))
        | ((with_reducible refine (HCB.out _ ?_).mono ?_); (first | exact T0.out.drew | exact Hid.out ‹_›); (rintro e w1 ⟨rfl, H1, ⟨g0, g1, g2, g3, g4, g5, h0, h1, h2, h3, h4, h5⟩, ⟨k0, k1, k2, k3, k4, k5, m0, m1, m2, m3, m4, m5⟩⟩)))
      all_goals
        go_wp2_with fail
        go_meet
        exact Two.put (Hid.out ‹_›) (Nat.le_refl _) _ _ _ _ _ _ _ _ _ _ _ _ _ _ _ _
    case rest =>
      have H1 := hcut
      clear hcut T0 HCA HCB
      have IH2 : Hid (∀ x ∈ zl, ∀ y ∈ yl, ∀ w : World, x.In w w.heap.size → y.In w w.heap.size → Calls Try.prog 27 #[x.val, y.val] w fun e w' => e = .returned (.bool (alk k x y)) ∧ Below w.heap.size w w') := IH.out
      clear IH
      obtain ⟨⟨g0, g1, g2, g3, g4, g5⟩, h0, h1, h2, h3, h4, h5⟩ := H1.out.1.all
      obtain ⟨⟨k0, k1, k2, k3, k4, k5⟩, m0, m1, m2, m3, m4, m5⟩ := H1.out.2.1.all
      have hl1 := HA.out.sl.2.1
      have hl2 := HB.out.sl.2.1
      have HBW := Lib.hid H1.out.2.2
      by_cases q1 : zop = yop
      · have b1 : (zop != yop) = false := by simp [q1]
        by_cases q2 : zs = ys
        · have b2 : (zs.toList == ys.toList) = true := by simp [q2]
          by_cases q3 : zn = yn
          · have b3 : (zn != yn) = false := by simp [q3]
            by_cases q4 : zl.length = yl.length
            · have b4 : ((zl.length : Int) != (yl.length : Int)) = false := by simp [q4]
              have HR : Hid (r = eqBy (alk k) zl yl) := by unfold Hid; rw [HS.out]; simp [Nd.op, Nd.s, Nd.n, Nd.l, q1, q2, q3]
              have HNE := Lib.hid q4
              clear q1 q2 q3 q4 HS
              go_wp2_with fail
              go_loopw [5] (fun i wr => ∃ j : Nat, j ≤ zl.length ∧ i = .int .i64 j ∧ Hid (eqBy (alk k) (zl.drop j) (yl.drop j) = eqBy (alk k) zl yl) ∧ Hid (Two w wr w.heap.size (.mk zop zs zn zf zt zA zc zl) (.mk yop ys yn yf yt yA yc yl))) (fun i _ => zl.length - (intOf i).toNat)
              case atStart => exact ⟨0, Nat.zero_le _, rfl, rfl, H1⟩
              case round =>
                obtain ⟨j, hj, rfl, HP, HT⟩ := hrel
                obtain ⟨⟨g0, g1, g2, g3, g4, g5⟩, h0, h1, h2, h3, h4, h5⟩ := HT.out.1.all
                obtain ⟨⟨k0, k1, k2, k3, k4, k5⟩, m0, m1, m2, m3, m4, m5⟩ := HT.out.2.1.all
                by_cases hlt : j < zl.length
                · have hlt2 : j < yl.length := by have := HNE.out; omega
                  have hltI : (j : Int) < (zl.length : Int) := by omega
                  have hlt2I : (j : Int) < (yl.length : Int) := by omega
                  have hj0 : (0 : Int) ≤ (j : Int) := by omega
                  obtain ⟨b1_, o1, rfl, hB1, p0, p1, p2, p3, p4, p5, hx⟩ := (HA.out.sl.below HT.out.2.2 HT.out.2.2.size).at_ j hlt
                  obtain ⟨b2_, o2, rfl, hB2, u0, u1, u2, u3, u4, u5, hy⟩ := (HB.out.sl.below HT.out.2.2 HT.out.2.2.size).at_ j hlt2
                  have hst := HP.out.symm.trans (eqBy_drop hlt hlt2)
                  have cal := IH2.out zl[j] (List.getElem_mem _) yl[j] (List.getElem_mem _)
                  generalize zl[j] = x at *
                  generalize yl[j] = y at *
                  obtain ⟨op1, s1, n1, f1, t1, A1, c1, l1⟩ := x
                  obtain ⟨op2, s2, n2, f2, t2, A2, c2, l2⟩ := y
                  simp only [Nd.A, Nd.c, Nd.l, Nd.op, Nd.s, Nd.n, Nd.f, Nd.t] at *
                  rw [Nd.val_mk, Nd.val_mk] at cal
                  have HST := Lib.hid hst
                  have HX := Lib.hid hx
                  have HY := Lib.hid hy
                  have CAL := Lib.hid cal
                  clear hst hx hy cal HP
                  go_wp2_with fail
                  go_still_tail 10, (by kernel_rfl)
                  have HT1 : Hid (Two w wr.drew w.heap.size (.mk zop zs zn zf zt (some ⟨b1_, o1, none⟩) zc zl) (.mk yop ys yn yf yt (some ⟨b2_, o2, none⟩) yc yl)) := HT.out.drew
                  have HX1 : Hid ((Nd.mk op1 s1 n1 f1 t1 A1 c1 l1).In wr.drew wr.drew.heap.size) := HX.out.below ((Below.refl _ _).drew) (Nat.le_refl _)
                  have HY1 : Hid ((Nd.mk op2 s2 n2 f2 t2 A2 c2 l2).In wr.drew wr.drew.heap.size) := HY.out.below ((Below.refl _ _).drew) (Nat.le_refl _)
                  clear p0 p1 p2 p3 p4 p5 u0 u1 u2 u3 u4 u5 g0 g1 g2 g3 g4 g5 k0 k1 k2 k3 k4 k5 h0 h1 h2 h3 h4 h5 m0 m1 m2 m3 m4 m5
                  change wpList _ _ _ _ _ wr.drew
                  generalize wr.drew = w5 at *
                  go_wp2_with fail
                  refine (CAL.out _ HX1.out HY1.out).mono ?_
                  rintro e w' ⟨rfl, hbw⟩
                  have HT2 := Lib.hid (HT1.out.after hbw)
                  clear hbw HX HY CAL HT HT1 HX1 HY1
                  by_cases hp : alk k (.mk op1 s1 n1 f1 t1 A1 c1 l1) (.mk op2 s2 n2 f2 t2 A2 c2 l2) = true
                  · have HST2 : Hid (eqBy (alk k) (zl.drop (j + 1)) (yl.drop (j + 1)) = eqBy (alk k) zl yl) := by unfold Hid; rw [HST.out, hp]; simp
                    rw [hp]
                    clear hp HST
                    go_wp2_with fail
                    go_roundw
                    case rel => exact ⟨j + 1, by omega, by go_num, HST2, HT2⟩
                    case measure => simp [intOf]; omega
                  · have hp' : alk k (.mk op1 s1 n1 f1 t1 A1 c1 l1) (.mk op2 s2 n2 f2 t2 A2 c2 l2) = false := by simpa using hp
                    have HST2 : Hid (eqBy (alk k) zl yl = false) := by unfold Hid; rw [HST.out, hp']; rfl
                    rw [hp']
                    clear hp hp' HST
                    go_wp2_with fail
                    go_ret
                    exact ⟨ret_bool (by rw [HR.out, HST2.out]), HT2.out.2.2⟩
                · have HN : Hid (eqBy (alk k) zl yl = true) := by
                    unfold Hid
                    rw [← HP.out, List.drop_eq_nil_of_le (by omega), List.drop_eq_nil_of_le (by have := HNE.out; omega)]; rfl
                  have HB4 := Lib.hid HT.out.2.2
                  clear HP HT
                  go_wp2_with fail
                  go_ret
                  exact ⟨ret_bool (by rw [HR.out, HN.out]), HB4.out⟩
            · have b4 : ((zl.length : Int) != (yl.length : Int)) = true := by simp; omega
              have HR : Hid (r = false) := by unfold Hid; rw [HS.out, eqBy_len (by exact q4)]; simp
              clear q1 q2 q3 q4 HS
              go_wp2_with fail
              go_ret
              exact ⟨ret_bool HR.out.symm, HBW.out⟩
          · have b3 : (zn != yn) = true := by simpa using q3
            have HR : Hid (r = false) := by unfold Hid; rw [HS.out]; simp [Nd.op, Nd.n, q3]
            clear q1 q2 q3 HS
            go_wp2_with fail
            go_ret
            exact ⟨ret_bool HR.out.symm, HBW.out⟩
        · have b2 : (zs.toList == ys.toList) = false := by rw [beq_eq_false_iff_ne]; exact fun e => q2 (bytes_ext e)
          have HR : Hid (r = false) := by unfold Hid; rw [HS.out]; simp [Nd.op, Nd.s, q2]
          clear q1 q2 HS
          go_wp2_with fail
          go_ret
          exact ⟨ret_bool HR.out.symm, HBW.out⟩
      · have b1 : (zop != yop) = true := by simpa using q1
        have HR : Hid (r = false) := by unfold Hid; rw [HS.out]; simp [Nd.op, q1]
        clear q1 HS
        go_wp2_with fail
        go_ret
        exact ⟨ret_bool HR.out.symm, HBW.out⟩

theorem refAlike_any : ∀ (k : Nat) (a b : Nd) (w : World), deepB k a.l = false → deepB k b.l = false → a.In w w.heap.size → b.In w w.heap.size →
    Calls Try.prog 27 #[a.val, b.val] w fun e w' => e = .returned (.bool (alk (k + 1) a b)) ∧ Below w.heap.size w w'
  | 0, a, b, w, hda, _, ha, hb => refAlike_one 0 a b w ha hb fun x hx => by
    rw [deepB_nil (Nd.bare_deep a hda)] at hx
    simp at hx
  | k + 1, a, b, w, hda, hdb, ha, hb => refAlike_one (k + 1) a b w ha hb fun x hx y hy w' hx' hy' =>
    refAlike_any k x y w' (deepB_part (Nd.bare_deep a hda) x hx) (deepB_part (Nd.bare_deep b hdb) y hy) hx' hy'

end Go.Proofs.Ytcndfihcjaoifaa
