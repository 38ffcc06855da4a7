/- TreeAlikes: the law's own walk. -/
import Derived.Test.YtcndfihcjaoifaaAlkR
import Derived.Test.YtcndfihcjaoifaaPlR
import Derived.Test.YtcndfihcjaoifaaEqN
import Derived.Test.YtcndfihcjaoifaaAwk

namespace Go.Proofs.Ytcndfihcjaoifaa
open Go.RowKit Go.Maps

set_option maxHeartbeats 4000000 in
set_option maxRecDepth 100000 in
theorem treeAlikes_any (a b : Nd) (w : World) (ha : a.In w w.heap.size) (hb : b.In w w.heap.size) :
    Calls Try.prog 6 #[a.val, b.val] w fun e w' => e = .returned (.bool true) ∧ Below w.heap.size w w' := by
  have HA := Lib.hid ha
  have HB := Lib.hid hb
  obtain ⟨W0, hW0⟩ : ∃ W0, W0 = (w.alloc (.cells a.arr 24)).alloc (.cells b.arr 24) := ⟨_, rfl⟩
  have T0 : Hid (Two w W0 w.heap.size a b) := by
    rw [hW0]
    exact ⟨(Blk.new w _ _).alloc _, by have := Blk.new (w.alloc (.cells a.arr 24)) 24 b.arr; simpa [NBlk] using this, ((Below.refl _ _).alloc (Nat.le_refl _) _).alloc (by simp) _⟩
  have cHA := fun (W : World) (h : Two w W w.heap.size a b) => heavy_any none none 0 0 0 0 a W (ha.below h.2.2 h.2.2.size)
  have cHB := fun (W : World) (h : Two w W w.heap.size a b) => heavy_any none none 0 0 0 0 b W (hb.below h.2.2 h.2.2.size)
  have cE := fun (W : World) (h : Two w W w.heap.size a b) (d1 : deepB 299 a.l = false) (d2 : deepB 299 b.l = false) => alike_any 299 a b W d1 d2 (ha.below h.2.2 h.2.2.size) (hb.below h.2.2 h.2.2.size)
  have cR := fun (W : World) (h : Two w W w.heap.size a b) (d1 : deepB 299 a.l = false) (d2 : deepB 299 b.l = false) => refAlike_any 299 a b W d1 d2 (ha.below h.2.2 h.2.2.size) (hb.below h.2.2 h.2.2.size)
  have cP := fun (W : World) (h : Two w W w.heap.size a b) (d1 : deepB 299 a.l = false) (d2 : a.cnt ≤ 3000) => plain_any 299 a W d1 d2 (ha.below h.2.2 h.2.2.size)
  have cQ := fun (W : World) (h : Two w W w.heap.size a b) (d1 : deepB 299 a.l = false) (d2 : a.cnt ≤ 3000) => refPlain_any 299 a W d1 d2 (ha.below h.2.2 h.2.2.size)
  have HW0 := Lib.hid hW0
  clear ha hb hW0
  generalize alk (299 + 1) a b = r at cE cR
  obtain ⟨op, s, n, f, t, A, c, l⟩ := a
  obtain ⟨op', s', n', f', t', A', c', l'⟩ := b
  simp only [Nd.val_mk] at cHA cHB cE cR cP cQ
  rw [Nd.val_mk, Nd.val_mk]
  unfold Nd.arr at HW0
  have CHA := Lib.hid cHA
  have CHB := Lib.hid cHB
  have CE := Lib.hid cE
  have CR := Lib.hid cR
  have CP := Lib.hid cP
  have CQ := Lib.hid cQ
  clear cHA cHB cE cR cP cQ
  go_enter Try.func6, Try.ntmps6
  go_wp2_with fail
  rw [← HW0.out]
  refine (CHA.out W0 T0.out).mono ?_
  rintro e w1 ⟨hv, rfl, hb1, hh⟩
  have T1 := Lib.hid (T0.out.after hb1)
  have HH1 := Lib.hid hh
  clear hh hb1 HW0 T0 CHA
  cases hv with
  | true =>
    clear HH1 CHB CE CR CP CQ
    go_wp2_with fail
    refine (awake_any w1).mono ?_
    rintro e w2 ⟨rfl, hb2⟩
    have T2 := Lib.hid (T1.out.after hb2)
    clear hb2
    go_wp2_with fail
    go_ret
    exact ⟨rfl, T2.out.2.2⟩
  | false =>
    obtain ⟨_, _, hd1, hc1⟩ := HH1.out (by first | rfl | trivial)
    have HD1 := Lib.hid hd1
    have HC1 := Lib.hid hc1
    obtain ⟨g0, g1, g2, g3, g4, g5, h0, h1, h2, h3, h4, h5⟩ := T1.out.1.nc
    obtain ⟨k0, k1, k2, k3, k4, k5, m0, m1, m2, m3, m4, m5⟩ := T1.out.2.1.nc
    clear hd1 hc1 HH1
    go_wp2_with fail
    refine (CHB.out w1 T1.out).mono ?_
    rintro e w2 ⟨hv, rfl, hb2, hh⟩
    have T2 := Lib.hid (T1.out.after hb2)
    have HH2 := Lib.hid hh
    clear hh hb2 T1 CHB g0 g1 g2 g3 g4 g5 h0 h1 h2 h3 h4 h5 k0 k1 k2 k3 k4 k5 m0 m1 m2 m3 m4 m5
    cases hv with
    | true =>
      clear HH2 CE CR CP CQ
      go_wp2_with fail
      refine (awake_any w2).mono ?_
      rintro e w3 ⟨rfl, hb3⟩
      have T3 := Lib.hid (T2.out.after hb3)
      clear hb3
      go_wp2_with fail
      go_ret
      exact ⟨rfl, T3.out.2.2⟩
    | false =>
      obtain ⟨_, _, hd2, hc2⟩ := HH2.out (by first | rfl | trivial)
      have cE := fun (W : World) (h : Two w W w.heap.size (.mk op s n f t A c l) (.mk op' s' n' f' t' A' c' l')) => (CE.out W h HD1.out hd2).mono (fun e w' (q : e = .returned (.bool r) ∧ Below W.heap.size W w') => (⟨q.1, Lib.hid (h.after q.2), (h.after q.2).1.nc, (h.after q.2).2.1.nc⟩ : e = .returned (.bool r) ∧ Hid (Two w w' w.heap.size (.mk op s n f t A c l) (.mk op' s' n' f' t' A' c' l')) ∧ NC w' w.heap.size op s n f t (.slice A l.length c) ∧ NC w' (w.heap.size + 1) op' s' n' f' t' (.slice A' l'.length c')))
      have cR := fun (W : World) (h : Two w W w.heap.size (.mk op s n f t A c l) (.mk op' s' n' f' t' A' c' l')) => (CR.out W h HD1.out hd2).mono (fun e w' (q : e = .returned (.bool r) ∧ Below W.heap.size W w') => (⟨q.1, Lib.hid (h.after q.2), (h.after q.2).1.nc, (h.after q.2).2.1.nc⟩ : e = .returned (.bool r) ∧ Hid (Two w w' w.heap.size (.mk op s n f t A c l) (.mk op' s' n' f' t' A' c' l')) ∧ NC w' w.heap.size op s n f t (.slice A l.length c) ∧ NC w' (w.heap.size + 1) op' s' n' f' t' (.slice A' l'.length c')))
      have cP := fun (W : World) (h : Two w W w.heap.size (.mk op s n f t A c l) (.mk op' s' n' f' t' A' c' l')) => (CP.out W h HD1.out HC1.out).mono (R' := fun e w' => ∃ y : Nd, e = .returned y.val ∧ y.er = plainT (299 + 1) (Nd.mk op s n f t A c l).er ∧ y.In w' w'.heap.size ∧ deepB 299 y.l = false ∧ Hid (Two w w' w.heap.size (.mk op s n f t A c l) (.mk op' s' n' f' t' A' c' l')) ∧ NC w' w.heap.size op s n f t (.slice A l.length c) ∧ NC w' (w.heap.size + 1) op' s' n' f' t' (.slice A' l'.length c'))
        (fun e w' ⟨y, q1, q2, q3, q4, q5, q6, q7⟩ => ⟨y, q1, q2, q3, q5, Lib.hid (h.after q7), (h.after q7).1.nc, (h.after q7).2.1.nc⟩)
      have cQ := fun (W : World) (h : Two w W w.heap.size (.mk op s n f t A c l) (.mk op' s' n' f' t' A' c' l')) => (CQ.out W h HD1.out HC1.out).mono (R' := fun e w' => ∃ y : Nd, e = .returned y.val ∧ y.er = plainT (299 + 1) (Nd.mk op s n f t A c l).er ∧ y.In w' w'.heap.size ∧ Below W.heap.size W w' ∧ Hid (Two w w' w.heap.size (.mk op s n f t A c l) (.mk op' s' n' f' t' A' c' l')) ∧ NC w' w.heap.size op s n f t (.slice A l.length c) ∧ NC w' (w.heap.size + 1) op' s' n' f' t' (.slice A' l'.length c'))
        (fun e w' ⟨y, q1, q2, q3, q4, q7⟩ => ⟨y, q1, q2, q3, q7, Lib.hid (h.after q7), (h.after q7).1.nc, (h.after q7).2.1.nc⟩)
      have HCE := Lib.hid cE
      have HCR := Lib.hid cR
      have HCP := Lib.hid cP
      have HCQ := Lib.hid cQ
      clear cE cR cP cQ CE CR CP CQ hd2 hc2 HH2
      have H2 := Lib.hid T2.out.drew
      obtain ⟨g0, g1, g2, g3, g4, g5, h0, h1, h2, h3, h4, h5⟩ := H2.out.1.nc
      obtain ⟨k0, k1, k2, k3, k4, k5, m0, m1, m2, m3, m4, m5⟩ := H2.out.2.1.nc
      go_wp2_with fail
      go_region_held3 (fun w' => w'.cell? ⟨w.heap.size, 0, none⟩ = some (.int .i64 op) ∧ w'.cell? ⟨w.heap.size, 1, none⟩ = some (.string s) ∧ w'.cell? ⟨w.heap.size, 2, none⟩ = some (.int .i64 n) ∧ w'.cell? ⟨w.heap.size, 3, none⟩ = some (.int .i64 f) ∧ w'.cell? ⟨w.heap.size, 4, none⟩ = some (.int .i64 t) ∧ w'.cell? ⟨w.heap.size, 5, none⟩ = some (.slice A l.length c) ∧
          w'.cell? ⟨w.heap.size + 1, 0, none⟩ = some (.int .i64 op') ∧ w'.cell? ⟨w.heap.size + 1, 1, none⟩ = some (.string s') ∧ w'.cell? ⟨w.heap.size + 1, 2, none⟩ = some (.int .i64 n') ∧ w'.cell? ⟨w.heap.size + 1, 3, none⟩ = some (.int .i64 f') ∧ w'.cell? ⟨w.heap.size + 1, 4, none⟩ = some (.int .i64 t') ∧ w'.cell? ⟨w.heap.size + 1, 5, none⟩ = some (.slice A' l'.length c') ∧
          Hid (Two w w' w.heap.size (.mk op s n f t A c l) (.mk op' s' n' f' t' A' c' l')))
        (first
          | exact ⟨g0, g1, g2, g3, g4, g5, k0, k1, k2, k3, k4, k5, H2⟩
          | go_keep)
        (first
          | (go_at_call 26; go_split_ands; (with_reducible refine (HCE.out _ ?_).mono ?_); (exact Hid.out ‹_›); (rintro e w1 ⟨rfl, H2, ⟨g0, g1, g2, g3, g4, g5, h0, h1, h2, h3, h4, h5⟩, ⟨k0, k1, k2, k3, k4, k5, m0, m1, m2, m3, m4, m5⟩⟩))
          | (go_at_call 27; go_split_ands; (with_reducible refine (HCR.out _ ?_).mono ?_); (exact Hid.out ‹_›); (rintro e w1 ⟨rfl, H2, ⟨g0, g1, g2, g3, g4, g5, h0, h1, h2, h3, h4, h5⟩, ⟨k0, k1, k2, k3, k4, k5, m0, m1, m2, m3, m4, m5⟩⟩))
          | (go_at_call 28; go_split_ands; (with_reducible refine (HCP.out _ ?_).mono ?_); (exact Hid.out ‹_›); (rintro e w4 ⟨y1, rfl, her1, hin1, hdp1, H2, ⟨g0, g1, g2, g3, g4, g5, h0, h1, h2, h3, h4, h5⟩, ⟨k0, k1, k2, k3, k4, k5, m0, m1, m2, m3, m4, m5⟩⟩; have HER1 := Lib.hid her1; have HIN1 := Lib.hid hin1; have HDP1 := Lib.hid hdp1; clear her1 hin1 hdp1))
          | (go_at_call 29; go_split_ands; (with_reducible refine (HCQ.out _ ?_).mono ?_); (exact Hid.out ‹_›); (rintro e w5 ⟨y2, rfl, her2, hin2, hbq, H2, ⟨g0, g1, g2, g3, g4, g5, h0, h1, h2, h3, h4, h5⟩, ⟨k0, k1, k2, k3, k4, k5, m0, m1, m2, m3, m4, m5⟩⟩; have HEQ : Hid (eqn y1 y2 = true) := eqn_iff.2 (HER1.out.trans her2.symm); have HIN1 := Lib.hid (HIN1.out.below hbq hbq.size); have HIN2 := Lib.hid hin2; clear her2 hin2 hbq))
          | (go_at_call 15; refine (eqNode_any 299 y1 y2 w5 HDP1.out HIN1.out HIN2.out).mono ?_; (rintro e w6 ⟨rfl, hb6⟩; rw [HEQ.out]; have H2 := Lib.hid (H2.out.after hb6); obtain ⟨g0, g1, g2, g3, g4, g5, h0, h1, h2, h3, h4, h5⟩ := H2.out.1.nc; obtain ⟨k0, k1, k2, k3, k4, k5, m0, m1, m2, m3, m4, m5⟩ := H2.out.2.1.nc; clear hb6))
          | (go_at_call 10; refine (awake_any w6).mono ?_; (rintro e w7 ⟨rfl, hb7⟩; have H2 := Lib.hid (H2.out.after hb7); obtain ⟨g0, g1, g2, g3, g4, g5, h0, h1, h2, h3, h4, h5⟩ := H2.out.1.nc; obtain ⟨k0, k1, k2, k3, k4, k5, m0, m1, m2, m3, m4, m5⟩ := H2.out.2.1.nc; clear hb7)))
      go_wp2_with fail
      go_ret
      exact ⟨by first | rfl | simp, H2.out.2.2⟩

end Go.Proofs.Ytcndfihcjaoifaa
