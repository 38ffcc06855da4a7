/- TreeEquals: the law's own walk, one of three cases. -/
import Derived.Test.YtcndfihcjaoifaaTEq0

namespace Go.Proofs.Ytcndfihcjaoifaa
open Go.RowKit Go.Maps

set_option linter.unusedSimpArgs false in
set_option maxHeartbeats 40000000 in
set_option maxRecDepth 100000 in
theorem treeEquals_2 (a b c : Nd) (w : World) (hx0 : alk 300 a b = true) (hy0 : alk 300 b c = false) (ha : a.In w w.heap.size) (hb : b.In w w.heap.size) (hc : c.In w w.heap.size) :
    Calls Try.prog 7 #[a.val, b.val, c.val] w fun e w' => e = .returned (.bool true) ∧ Below w.heap.size w w' := by
  have HX0 := Lib.hid hx0
  have HY0 := Lib.hid hy0
  have HA := Lib.hid ha
  have HB := Lib.hid hb
  have HC := Lib.hid hc
  obtain ⟨W0, hW0⟩ : ∃ W0, W0 = ((w.alloc (.cells a.arr 24)).alloc (.cells b.arr 24)).alloc (.cells c.arr 24) := ⟨_, rfl⟩
  have T0 : Hid (Thr w W0 a b c) := by
    rw [hW0]
    refine ⟨((Blk.new w _ _).alloc _).alloc _, ?_, ?_, (((Below.refl _ _).alloc (Nat.le_refl _) _).alloc (by simp) _).alloc (by simp; omega) _⟩
    · have := Blk.new (w.alloc (.cells a.arr 24)) 24 b.arr
      rw [show (w.alloc (.cells a.arr 24)).heap.size = w.heap.size + 1 by simp] at this
      exact this.alloc _
    · have := Blk.new ((w.alloc (.cells a.arr 24)).alloc (.cells b.arr 24)) 24 c.arr
      rw [show ((w.alloc (.cells a.arr 24)).alloc (.cells b.arr 24)).heap.size = w.heap.size + 2 by simp] at this
      exact this
  have HW0 := Lib.hid hW0
  clear ha hb hc hW0 hx0 hy0
  obtain ⟨op2, s2, n2, f2, t2, A2, c2, l2⟩ := c
  obtain ⟨op', s', n', f', t', A', c', l'⟩ := b
  obtain ⟨op, s, n, f, t, A, c, l⟩ := a
  have cHA := fun (W : World) (h : Thr w W (.mk op s n f t A c l) (.mk op' s' n' f' t' A' c' l') (.mk op2 s2 n2 f2 t2 A2 c2 l2)) => heavy_any none none 0 0 0 0 (.mk op s n f t A c l) W (HA.out.below h.2.2.2 h.2.2.2.size)
  have cHB := fun (W : World) (h : Thr w W (.mk op s n f t A c l) (.mk op' s' n' f' t' A' c' l') (.mk op2 s2 n2 f2 t2 A2 c2 l2)) => heavy_any none none 0 0 0 0 (.mk op' s' n' f' t' A' c' l') W (HB.out.below h.2.2.2 h.2.2.2.size)
  have cHC := fun (W : World) (h : Thr w W (.mk op s n f t A c l) (.mk op' s' n' f' t' A' c' l') (.mk op2 s2 n2 f2 t2 A2 c2 l2)) => heavy_any none none 0 0 0 0 (.mk op2 s2 n2 f2 t2 A2 c2 l2) W (HC.out.below h.2.2.2 h.2.2.2.size)
  simp only [Nd.val_mk] at cHA cHB cHC
  rw [Nd.val_mk, Nd.val_mk, Nd.val_mk]
  unfold Nd.arr at HW0
  have CHA := Lib.hid cHA
  have CHB := Lib.hid cHB
  have CHC := Lib.hid cHC
  clear cHA cHB cHC
  go_enter Try.func7, Try.ntmps7
  go_wp2_with fail
  rw [← HW0.out]
  refine (CHA.out W0 T0.out).mono ?_
  rintro e w1 ⟨hv, rfl, hb1, hh⟩
  have T1 := Lib.hid (T0.out.after hb1)
  have HH1 := Lib.hid hh
  clear hh hb1 HW0 T0 CHA
  cases hv with
  | true =>
    clear HH1 CHB CHC
    go_wp2_with fail
    refine (awake_any w1).mono ?_
    rintro e w2 ⟨rfl, hb2⟩
    have T2 := Lib.hid (T1.out.after hb2)
    clear hb2
    go_wp2_with fail
    go_ret
    exact ⟨rfl, T2.out.2.2.2⟩
  | false =>
    obtain ⟨_, _, hd1, hc1⟩ := HH1.out (by first | rfl | trivial)
    have HD1 := Lib.hid hd1
    have HC1 := Lib.hid hc1
    have H2 := T1
    obtain ⟨⟨g0, g1, g2, g3, g4, g5⟩, ⟨k0, k1, k2, k3, k4, k5⟩, ⟨m0, m1, m2, m3, m4, m5⟩⟩ := H2.out.cells
    clear hd1 hc1 HH1
    go_wp2_with fail
    refine (CHB.out w1 T1.out).mono ?_
    rintro e w2 ⟨hv, rfl, hb2, hh⟩
    have T2 := Lib.hid (T1.out.after hb2)
    have HH2 := Lib.hid hh
    clear hh hb2 T1 CHB H2 g0 g1 g2 g3 g4 g5 k0 k1 k2 k3 k4 k5 m0 m1 m2 m3 m4 m5
    cases hv with
    | true =>
      clear HH2 CHC
      go_wp2_with fail
      refine (awake_any w2).mono ?_
      rintro e w3 ⟨rfl, hb3⟩
      have T3 := Lib.hid (T2.out.after hb3)
      clear hb3
      go_wp2_with fail
      go_ret
      exact ⟨rfl, T3.out.2.2.2⟩
    | false =>
      obtain ⟨_, _, hd2, hc2⟩ := HH2.out (by first | rfl | trivial)
      have HD2 := Lib.hid hd2
      have HC2 := Lib.hid hc2
      have H2 := T2
      obtain ⟨⟨g0, g1, g2, g3, g4, g5⟩, ⟨k0, k1, k2, k3, k4, k5⟩, ⟨m0, m1, m2, m3, m4, m5⟩⟩ := H2.out.cells
      clear hd2 hc2 HH2
      go_wp2_with fail
      refine (CHC.out w2 T2.out).mono ?_
      rintro e w3 ⟨hv, rfl, hb3, hh⟩
      have T3 := Lib.hid (T2.out.after hb3)
      have HH3 := Lib.hid hh
      clear hh hb3 T2 CHC H2 g0 g1 g2 g3 g4 g5 k0 k1 k2 k3 k4 k5 m0 m1 m2 m3 m4 m5
      cases hv with
      | true =>
        clear HH3
        go_wp2_with fail
        refine (awake_any w3).mono ?_
        rintro e w4 ⟨rfl, hb4⟩
        have T4 := Lib.hid (T3.out.after hb4)
        clear hb4
        go_wp2_with fail
        go_ret
        exact ⟨rfl, T4.out.2.2.2⟩
      | false =>
        obtain ⟨_, _, hd3, hc3⟩ := HH3.out (by first | rfl | trivial)
        obtain ⟨x, hx⟩ : ∃ x, x = alk 300 (.mk op s n f t A c l) (.mk op' s' n' f' t' A' c' l') := ⟨_, rfl⟩
        obtain ⟨y, hy⟩ : ∃ y, y = alk 300 (.mk op' s' n' f' t' A' c' l') (.mk op2 s2 n2 f2 t2 A2 c2 l2) := ⟨_, rfl⟩
        obtain ⟨z, hz⟩ : ∃ z, z = alk 300 (.mk op s n f t A c l) (.mk op2 s2 n2 f2 t2 A2 c2 l2) := ⟨_, rfl⟩
        have cAB := fun (W : World) (h : Thr w W (.mk op s n f t A c l) (.mk op' s' n' f' t' A' c' l') (.mk op2 s2 n2 f2 t2 A2 c2 l2)) => (alike_any 299 (.mk op s n f t A c l) (.mk op' s' n' f' t' A' c' l') W HD1.out HD2.out (HA.out.below h.2.2.2 h.2.2.2.size) (HB.out.below h.2.2.2 h.2.2.2.size)).mono (R' := fun e w' => e = .returned (.bool x) ∧ Hid (Thr w w' (.mk op s n f t A c l) (.mk op' s' n' f' t' A' c' l') (.mk op2 s2 n2 f2 t2 A2 c2 l2)) ∧ C6 w' (w.heap.size) op s n f t (.slice A l.length c) ∧ C6 w' (w.heap.size + 1) op' s' n' f' t' (.slice A' l'.length c') ∧ C6 w' (w.heap.size + 2) op2 s2 n2 f2 t2 (.slice A2 l2.length c2)) (fun e w' q => ⟨by rw [hx]; exact q.1, Lib.hid (h.after q.2), (h.after q.2).cells⟩)
        have cBC := fun (W : World) (h : Thr w W (.mk op s n f t A c l) (.mk op' s' n' f' t' A' c' l') (.mk op2 s2 n2 f2 t2 A2 c2 l2)) => (alike_any 299 (.mk op' s' n' f' t' A' c' l') (.mk op2 s2 n2 f2 t2 A2 c2 l2) W HD2.out hd3 (HB.out.below h.2.2.2 h.2.2.2.size) (HC.out.below h.2.2.2 h.2.2.2.size)).mono (R' := fun e w' => e = .returned (.bool y) ∧ Hid (Thr w w' (.mk op s n f t A c l) (.mk op' s' n' f' t' A' c' l') (.mk op2 s2 n2 f2 t2 A2 c2 l2)) ∧ C6 w' (w.heap.size) op s n f t (.slice A l.length c) ∧ C6 w' (w.heap.size + 1) op' s' n' f' t' (.slice A' l'.length c') ∧ C6 w' (w.heap.size + 2) op2 s2 n2 f2 t2 (.slice A2 l2.length c2)) (fun e w' q => ⟨by rw [hy]; exact q.1, Lib.hid (h.after q.2), (h.after q.2).cells⟩)
        have cAC := fun (W : World) (h : Thr w W (.mk op s n f t A c l) (.mk op' s' n' f' t' A' c' l') (.mk op2 s2 n2 f2 t2 A2 c2 l2)) => (alike_any 299 (.mk op s n f t A c l) (.mk op2 s2 n2 f2 t2 A2 c2 l2) W HD1.out hd3 (HA.out.below h.2.2.2 h.2.2.2.size) (HC.out.below h.2.2.2 h.2.2.2.size)).mono (R' := fun e w' => e = .returned (.bool z) ∧ Hid (Thr w w' (.mk op s n f t A c l) (.mk op' s' n' f' t' A' c' l') (.mk op2 s2 n2 f2 t2 A2 c2 l2)) ∧ C6 w' (w.heap.size) op s n f t (.slice A l.length c) ∧ C6 w' (w.heap.size + 1) op' s' n' f' t' (.slice A' l'.length c') ∧ C6 w' (w.heap.size + 2) op2 s2 n2 f2 t2 (.slice A2 l2.length c2)) (fun e w' q => ⟨by rw [hz]; exact q.1, Lib.hid (h.after q.2), (h.after q.2).cells⟩)
        have cPA := fun (W : World) (h : Thr w W (.mk op s n f t A c l) (.mk op' s' n' f' t' A' c' l') (.mk op2 s2 n2 f2 t2 A2 c2 l2)) => plain_any 299 (.mk op s n f t A c l) W HD1.out HC1.out (HA.out.below h.2.2.2 h.2.2.2.size)
        have HXD := Lib.hid hx
        have HYD := Lib.hid hy
        have HZD := Lib.hid hz
        simp only [Nd.val_mk] at cAB cBC cAC cPA
        have CAB := Lib.hid cAB
        have CBC := Lib.hid cBC
        have CAC := Lib.hid cAC
        have CPA := Lib.hid cPA
        have H2 := Lib.hid T3.out.drew
        obtain ⟨⟨g0, g1, g2, g3, g4, g5⟩, ⟨k0, k1, k2, k3, k4, k5⟩, ⟨m0, m1, m2, m3, m4, m5⟩⟩ := H2.out.cells
        clear hx hy hz cAB cBC cAC cPA hd3 hc3 HH3 T3
        go_wp2_with fail
        go_region_held3 (fun w' => w'.cell? ⟨w.heap.size, 0, none⟩ = some (.int .i64 op) ∧ w'.cell? ⟨w.heap.size, 1, none⟩ = some (.string s) ∧ w'.cell? ⟨w.heap.size, 2, none⟩ = some (.int .i64 n) ∧ w'.cell? ⟨w.heap.size, 3, none⟩ = some (.int .i64 f) ∧ w'.cell? ⟨w.heap.size, 4, none⟩ = some (.int .i64 t) ∧ w'.cell? ⟨w.heap.size, 5, none⟩ = some (.slice A l.length c) ∧ w'.cell? ⟨w.heap.size + 1, 0, none⟩ = some (.int .i64 op') ∧ w'.cell? ⟨w.heap.size + 1, 1, none⟩ = some (.string s') ∧ w'.cell? ⟨w.heap.size + 1, 2, none⟩ = some (.int .i64 n') ∧ w'.cell? ⟨w.heap.size + 1, 3, none⟩ = some (.int .i64 f') ∧ w'.cell? ⟨w.heap.size + 1, 4, none⟩ = some (.int .i64 t') ∧ w'.cell? ⟨w.heap.size + 1, 5, none⟩ = some (.slice A' l'.length c') ∧ w'.cell? ⟨w.heap.size + 2, 0, none⟩ = some (.int .i64 op2) ∧ w'.cell? ⟨w.heap.size + 2, 1, none⟩ = some (.string s2) ∧ w'.cell? ⟨w.heap.size + 2, 2, none⟩ = some (.int .i64 n2) ∧ w'.cell? ⟨w.heap.size + 2, 3, none⟩ = some (.int .i64 f2) ∧ w'.cell? ⟨w.heap.size + 2, 4, none⟩ = some (.int .i64 t2) ∧ w'.cell? ⟨w.heap.size + 2, 5, none⟩ = some (.slice A2 l2.length c2) ∧ Hid (Thr w w' (.mk op s n f t A c l) (.mk op' s' n' f' t' A' c' l') (.mk op2 s2 n2 f2 t2 A2 c2 l2)))
          (first
            | exact ⟨g0, g1, g2, g3, g4, g5, k0, k1, k2, k3, k4, k5, m0, m1, m2, m3, m4, m5, H2⟩
            | go_keep)
          (first
            | (go_at_call 26; (with_reducible refine (CAB.out _ H2.out).mono ?_); (rintro e w4 ⟨rfl, H2, ⟨g0, g1, g2, g3, g4, g5⟩, ⟨k0, k1, k2, k3, k4, k5⟩, ⟨m0, m1, m2, m3, m4, m5⟩⟩))
            | (go_at_call 26; (with_reducible refine (CBC.out _ H2.out).mono ?_); (rintro e w4 ⟨rfl, H2, ⟨g0, g1, g2, g3, g4, g5⟩, ⟨k0, k1, k2, k3, k4, k5⟩, ⟨m0, m1, m2, m3, m4, m5⟩⟩))
            | (go_at_call 26; (with_reducible refine (CAC.out _ H2.out).mono ?_); (rintro e w4 ⟨rfl, H2, ⟨g0, g1, g2, g3, g4, g5⟩, ⟨k0, k1, k2, k3, k4, k5⟩, ⟨m0, m1, m2, m3, m4, m5⟩⟩)))
        clear CAB CBC CAC
        go_wp2_with fail
        refine (CPA.out _ H2.out).mono ?_
        rintro e w5 ⟨Y, rfl, her, hin, _, hdp, hcn, hb5⟩
        have T5 := Lib.hid (H2.out.after hb5)
        have F5 : Hid (Four w (w5.alloc (.cells Y.arr 24)) (.mk op s n f t A c l) (.mk op' s' n' f' t' A' c' l') (.mk op2 s2 n2 f2 t2 A2 c2 l2) w5.heap.size Y) :=
          ⟨T5.out.after ((Below.refl _ _).alloc (Nat.le_refl _) _), Blk.new w5 _ _, hin.below ((Below.refl _ _).alloc (Nat.le_refl _) _) (by simp)⟩
        have hcy : Y.cnt ≤ 3000 := Nat.le_trans hcn HC1.out
        obtain ⟨W6, hW6⟩ : ∃ W6, W6 = w5.alloc (.cells Y.arr 24) := ⟨_, rfl⟩
        obtain ⟨q, hq⟩ : ∃ q, q = w5.heap.size := ⟨_, rfl⟩
        rw [← hW6, ← hq] at F5
        have HW6 := Lib.hid hW6
        have HQ := Lib.hid hq
        clear hb5 hcn hin hW6 hq CPA T5 H2 g0 g1 g2 g3 g4 g5 k0 k1 k2 k3 k4 k5 m0 m1 m2 m3 m4 m5
        obtain ⟨opy, sy, ny, fy, ty, Ay, cy, ly⟩ := Y
        unfold Nd.arr at HW6
        have cAA := fun (W : World) (h : Four w W (.mk op s n f t A c l) (.mk op' s' n' f' t' A' c' l') (.mk op2 s2 n2 f2 t2 A2 c2 l2) q (.mk opy sy ny fy ty Ay cy ly)) => (alike_any 299 (.mk op s n f t A c l) (.mk op s n f t A c l) W HD1.out HD1.out (HA.out.below h.1.2.2.2 h.1.2.2.2.size) (HA.out.below h.1.2.2.2 h.1.2.2.2.size)).mono (R' := fun e w' => e = .returned (.bool true) ∧ Hid (Four w w' (.mk op s n f t A c l) (.mk op' s' n' f' t' A' c' l') (.mk op2 s2 n2 f2 t2 A2 c2 l2) q (.mk opy sy ny fy ty Ay cy ly)) ∧ C6 w' (w.heap.size) op s n f t (.slice A l.length c) ∧ C6 w' (w.heap.size + 1) op' s' n' f' t' (.slice A' l'.length c') ∧ C6 w' (w.heap.size + 2) op2 s2 n2 f2 t2 (.slice A2 l2.length c2) ∧ C6 w' (q) opy sy ny fy ty (.slice Ay ly.length cy)) (fun e w' q => ⟨by rw [← alk_refl 300 (.mk op s n f t A c l)]; exact q.1, Lib.hid (h.after q.2), (h.after q.2).cells⟩)
        have cBA := fun (W : World) (h : Four w W (.mk op s n f t A c l) (.mk op' s' n' f' t' A' c' l') (.mk op2 s2 n2 f2 t2 A2 c2 l2) q (.mk opy sy ny fy ty Ay cy ly)) => (alike_any 299 (.mk op' s' n' f' t' A' c' l') (.mk op s n f t A c l) W HD2.out HD1.out (HB.out.below h.1.2.2.2 h.1.2.2.2.size) (HA.out.below h.1.2.2.2 h.1.2.2.2.size)).mono (R' := fun e w' => e = .returned (.bool x) ∧ Hid (Four w w' (.mk op s n f t A c l) (.mk op' s' n' f' t' A' c' l') (.mk op2 s2 n2 f2 t2 A2 c2 l2) q (.mk opy sy ny fy ty Ay cy ly)) ∧ C6 w' (w.heap.size) op s n f t (.slice A l.length c) ∧ C6 w' (w.heap.size + 1) op' s' n' f' t' (.slice A' l'.length c') ∧ C6 w' (w.heap.size + 2) op2 s2 n2 f2 t2 (.slice A2 l2.length c2) ∧ C6 w' (q) opy sy ny fy ty (.slice Ay ly.length cy)) (fun e w' q => ⟨by rw [HXD.out, ← alk_symm 300 (.mk op s n f t A c l) (.mk op' s' n' f' t' A' c' l')]; exact q.1, Lib.hid (h.after q.2), (h.after q.2).cells⟩)
        have cAY := fun (W : World) (h : Four w W (.mk op s n f t A c l) (.mk op' s' n' f' t' A' c' l') (.mk op2 s2 n2 f2 t2 A2 c2 l2) q (.mk opy sy ny fy ty Ay cy ly)) => (alike_any 299 (.mk op s n f t A c l) (.mk opy sy ny fy ty Ay cy ly) W HD1.out hdp (HA.out.below h.1.2.2.2 h.1.2.2.2.size) h.2.2).mono (R' := fun e w' => e = .returned (.bool true) ∧ Hid (Four w w' (.mk op s n f t A c l) (.mk op' s' n' f' t' A' c' l') (.mk op2 s2 n2 f2 t2 A2 c2 l2) q (.mk opy sy ny fy ty Ay cy ly)) ∧ C6 w' (w.heap.size) op s n f t (.slice A l.length c) ∧ C6 w' (w.heap.size + 1) op' s' n' f' t' (.slice A' l'.length c') ∧ C6 w' (w.heap.size + 2) op2 s2 n2 f2 t2 (.slice A2 l2.length c2) ∧ C6 w' (q) opy sy ny fy ty (.slice Ay ly.length cy)) (fun e w' q => ⟨by rw [← alk_plain her]; exact q.1, Lib.hid (h.after q.2), (h.after q.2).cells⟩)
        have cPY := fun (W : World) (h : Four w W (.mk op s n f t A c l) (.mk op' s' n' f' t' A' c' l') (.mk op2 s2 n2 f2 t2 A2 c2 l2) q (.mk opy sy ny fy ty Ay cy ly)) => (plain_any 299 (.mk opy sy ny fy ty Ay cy ly) W hdp hcy h.2.2).mono (R' := fun e w' => ∃ y2 : Nd, e = .returned y2.val ∧ eqn (.mk opy sy ny fy ty Ay cy ly) y2 = true ∧ y2.In w' w'.heap.size ∧ Hid (Four w w' (.mk op s n f t A c l) (.mk op' s' n' f' t' A' c' l') (.mk op2 s2 n2 f2 t2 A2 c2 l2) q (.mk opy sy ny fy ty Ay cy ly)) ∧ C6 w' (w.heap.size) op s n f t (.slice A l.length c) ∧ C6 w' (w.heap.size + 1) op' s' n' f' t' (.slice A' l'.length c') ∧ C6 w' (w.heap.size + 2) op2 s2 n2 f2 t2 (.slice A2 l2.length c2) ∧ C6 w' (q) opy sy ny fy ty (.slice Ay ly.length cy)) (fun e w' ⟨y2, q1, q2, q3, _, _, _, q7⟩ => ⟨y2, q1, eqn_plain her q2, q3, Lib.hid (h.after q7), (h.after q7).cells⟩)
        have cPB := fun (W : World) (h : Four w W (.mk op s n f t A c l) (.mk op' s' n' f' t' A' c' l') (.mk op2 s2 n2 f2 t2 A2 c2 l2) q (.mk opy sy ny fy ty Ay cy ly)) => (plain_any 299 (.mk op' s' n' f' t' A' c' l') W HD2.out HC2.out (HB.out.below h.1.2.2.2 h.1.2.2.2.size)).mono (R' := fun e w' => ∃ y2 : Nd, e = .returned y2.val ∧ eqn (.mk opy sy ny fy ty Ay cy ly) y2 = x ∧ y2.In w' w'.heap.size ∧ Hid (Four w w' (.mk op s n f t A c l) (.mk op' s' n' f' t' A' c' l') (.mk op2 s2 n2 f2 t2 A2 c2 l2) q (.mk opy sy ny fy ty Ay cy ly)) ∧ C6 w' (w.heap.size) op s n f t (.slice A l.length c) ∧ C6 w' (w.heap.size + 1) op' s' n' f' t' (.slice A' l'.length c') ∧ C6 w' (w.heap.size + 2) op2 s2 n2 f2 t2 (.slice A2 l2.length c2) ∧ C6 w' (q) opy sy ny fy ty (.slice Ay ly.length cy)) (fun e w' ⟨y2, q1, q2, q3, _, _, _, q7⟩ => ⟨y2, q1, by rw [HXD.out]; exact eqn_alk her q2, q3, Lib.hid (h.after q7), (h.after q7).cells⟩)
        have HDY := Lib.hid hdp
        rw [Nd.val_mk]
        simp only [Nd.val_mk] at cAA cBA cAY cPY cPB
        have CAA := Lib.hid cAA
        have CBA := Lib.hid cBA
        have CAY := Lib.hid cAY
        have CPY := Lib.hid cPY
        have CPB := Lib.hid cPB
        clear cAA cBA cAY cPY cPB her hdp hcy HA HB HC HD1 HD2 HC1 HC2
        go_wp2_with fail
        rw [← HW6.out, ← HQ.out]
        have H2 := Lib.hid F5.out.drew
        obtain ⟨⟨g0, g1, g2, g3, g4, g5⟩, ⟨k0, k1, k2, k3, k4, k5⟩, ⟨m0, m1, m2, m3, m4, m5⟩, ⟨u0, u1, u2, u3, u4, u5⟩⟩ := H2.out.cells
        clear F5
        obtain rfl : x = true := by rw [HXD.out]; exact HX0.out
        obtain rfl : y = false := by rw [HYD.out]; exact HY0.out
        clear HXD HYD HZD HX0 HY0
        refine wp_region_held_drew (S := (fun w' => w'.cell? ⟨w.heap.size, 0, none⟩ = some (.int .i64 op) ∧ w'.cell? ⟨w.heap.size, 1, none⟩ = some (.string s) ∧ w'.cell? ⟨w.heap.size, 2, none⟩ = some (.int .i64 n) ∧ w'.cell? ⟨w.heap.size, 3, none⟩ = some (.int .i64 f) ∧ w'.cell? ⟨w.heap.size, 4, none⟩ = some (.int .i64 t) ∧ w'.cell? ⟨w.heap.size, 5, none⟩ = some (.slice A l.length c) ∧ w'.cell? ⟨w.heap.size + 1, 0, none⟩ = some (.int .i64 op') ∧ w'.cell? ⟨w.heap.size + 1, 1, none⟩ = some (.string s') ∧ w'.cell? ⟨w.heap.size + 1, 2, none⟩ = some (.int .i64 n') ∧ w'.cell? ⟨w.heap.size + 1, 3, none⟩ = some (.int .i64 f') ∧ w'.cell? ⟨w.heap.size + 1, 4, none⟩ = some (.int .i64 t') ∧ w'.cell? ⟨w.heap.size + 1, 5, none⟩ = some (.slice A' l'.length c') ∧ w'.cell? ⟨w.heap.size + 2, 0, none⟩ = some (.int .i64 op2) ∧ w'.cell? ⟨w.heap.size + 2, 1, none⟩ = some (.string s2) ∧ w'.cell? ⟨w.heap.size + 2, 2, none⟩ = some (.int .i64 n2) ∧ w'.cell? ⟨w.heap.size + 2, 3, none⟩ = some (.int .i64 f2) ∧ w'.cell? ⟨w.heap.size + 2, 4, none⟩ = some (.int .i64 t2) ∧ w'.cell? ⟨w.heap.size + 2, 5, none⟩ = some (.slice A2 l2.length c2) ∧ w'.cell? ⟨q, 0, none⟩ = some (.int .i64 opy) ∧ w'.cell? ⟨q, 1, none⟩ = some (.string sy) ∧ w'.cell? ⟨q, 2, none⟩ = some (.int .i64 ny) ∧ w'.cell? ⟨q, 3, none⟩ = some (.int .i64 fy) ∧ w'.cell? ⟨q, 4, none⟩ = some (.int .i64 ty) ∧ w'.cell? ⟨q, 5, none⟩ = some (.slice Ay ly.length cy) ∧ Hid (Four w w' (.mk op s n f t A c l) (.mk op' s' n' f' t' A' c' l') (.mk op2 s2 n2 f2 t2 A2 c2 l2) q (.mk opy sy ny fy ty Ay cy ly)))) (by kernel_rfl) ?_ (fun hHeld => ?_)
        · exact ⟨g0, g1, g2, g3, g4, g5, k0, k1, k2, k3, k4, k5, m0, m1, m2, m3, m4, m5, u0, u1, u2, u3, u4, u5, H2⟩
        refine wpAnyH_take (i := 0) (v := ?_) rfl (by kernel_rfl) (by kernel_rfl) (by kernel_rfl) (fun _ _ _ h => h) (Or.inl ⟨by rfl, ?_⟩) (by assumption) ?_
        rotate_left
        · (intro w' hSw; (try dsimp only at hSw); go_simp; try with_reducible rfl)
        (try simp only [Act.put, List.getElem_toArray, List.getElem_cons_succ, List.getElem_cons_zero, List.setIfInBounds_toArray, List.set_cons_zero, List.set_cons_succ])
        refine wpAnyH_take (i := 1) (v := ?_) rfl (by kernel_rfl) (by kernel_rfl) (by kernel_rfl) (fun _ _ _ h => h) (Or.inl ⟨by rfl, ?_⟩) (by assumption) ?_
        rotate_left
        · (intro w' hSw; (try dsimp only at hSw); go_simp; try with_reducible rfl)
        (try simp only [Act.put, List.getElem_toArray, List.getElem_cons_succ, List.getElem_cons_zero, List.setIfInBounds_toArray, List.set_cons_zero, List.set_cons_succ])
        refine wpAnyH_ready (rs := [2]) (by kernel_rfl) (by simp) ?_
        refine AllReadyH.cons rfl (fun K hK => ?_) AllReadyH.nil
        go_simp
        (go_at_call 26; (with_reducible refine (CAA.out _ H2.out).mono ?_); (rintro e w7 ⟨rfl, H2, ⟨g0, g1, g2, g3, g4, g5⟩, ⟨k0, k1, k2, k3, k4, k5⟩, ⟨m0, m1, m2, m3, m4, m5⟩, ⟨u0, u1, u2, u3, u4, u5⟩⟩))
        clear hHeld
        first | (refine hK.out _ _ ?_ (fun hHeld => ?_)) | (go_wp2_with fail; refine hK.out _ _ ?_ (fun hHeld => ?_))
        · exact ⟨g0, g1, g2, g3, g4, g5, k0, k1, k2, k3, k4, k5, m0, m1, m2, m3, m4, m5, u0, u1, u2, u3, u4, u5, H2⟩
        clear hK K
        (try simp only [Act.put, List.getElem_toArray, List.getElem_cons_succ, List.getElem_cons_zero, List.setIfInBounds_toArray, List.set_cons_zero, List.set_cons_succ])
        refine wpAnyH_take (i := 3) (v := ?_) rfl (by kernel_rfl) (by kernel_rfl) (by kernel_rfl) (fun _ _ _ h => h) (Or.inl ⟨by rfl, ?_⟩) (by assumption) ?_
        rotate_left
        · (intro w' hSw; (try dsimp only at hSw); go_simp; try with_reducible rfl)
        (try simp only [Act.put, List.getElem_toArray, List.getElem_cons_succ, List.getElem_cons_zero, List.setIfInBounds_toArray, List.set_cons_zero, List.set_cons_succ])
        refine wpAnyH_take (i := 4) (v := ?_) rfl (by kernel_rfl) (by kernel_rfl) (by kernel_rfl) (fun _ _ _ h => h) (Or.inl ⟨by rfl, ?_⟩) (by assumption) ?_
        rotate_left
        · (intro w' hSw; (try dsimp only at hSw); go_simp; try with_reducible rfl)
        (try simp only [Act.put, List.getElem_toArray, List.getElem_cons_succ, List.getElem_cons_zero, List.setIfInBounds_toArray, List.set_cons_zero, List.set_cons_succ])
        refine wpAnyH_take (i := 5) (v := ?_) rfl (by kernel_rfl) (by kernel_rfl) (by kernel_rfl) (fun _ _ _ h => h) (Or.inl ⟨by rfl, ?_⟩) (by assumption) ?_
        rotate_left
        · (intro w' hSw; (try dsimp only at hSw); go_simp; try with_reducible rfl)
        (try simp only [Act.put, List.getElem_toArray, List.getElem_cons_succ, List.getElem_cons_zero, List.setIfInBounds_toArray, List.set_cons_zero, List.set_cons_succ])
        refine wpAnyH_take (i := 6) (v := ?_) rfl (by kernel_rfl) (by kernel_rfl) (by kernel_rfl) (fun _ _ _ h => h) (Or.inl ⟨by rfl, ?_⟩) (by assumption) ?_
        rotate_left
        · (intro w' hSw; (try dsimp only at hSw); go_simp; try with_reducible rfl)
        (try simp only [Act.put, List.getElem_toArray, List.getElem_cons_succ, List.getElem_cons_zero, List.setIfInBounds_toArray, List.set_cons_zero, List.set_cons_succ])
        refine wpAnyH_ready (rs := [7]) (by kernel_rfl) (by simp) ?_
        refine AllReadyH.cons rfl (fun K hK => ?_) AllReadyH.nil
        go_simp
        (go_at_call 26; (with_reducible refine (CBA.out _ H2.out).mono ?_); (rintro e w7 ⟨rfl, H2, ⟨g0, g1, g2, g3, g4, g5⟩, ⟨k0, k1, k2, k3, k4, k5⟩, ⟨m0, m1, m2, m3, m4, m5⟩, ⟨u0, u1, u2, u3, u4, u5⟩⟩))
        clear hHeld
        first | (refine hK.out _ _ ?_ (fun hHeld => ?_)) | (go_wp2_with fail; refine hK.out _ _ ?_ (fun hHeld => ?_))
        · exact ⟨g0, g1, g2, g3, g4, g5, k0, k1, k2, k3, k4, k5, m0, m1, m2, m3, m4, m5, u0, u1, u2, u3, u4, u5, H2⟩
        clear hK K
        (try simp only [Act.put, List.getElem_toArray, List.getElem_cons_succ, List.getElem_cons_zero, List.setIfInBounds_toArray, List.set_cons_zero, List.set_cons_succ])
        refine wpAnyH_take (i := 8) (v := ?_) rfl (by kernel_rfl) (by kernel_rfl) (by kernel_rfl) (fun _ _ _ h => h) (Or.inl ⟨by rfl, ?_⟩) (by assumption) ?_
        rotate_left
        · (intro w' hSw; (try dsimp only at hSw); go_simp; try with_reducible rfl)
        (try simp only [Act.put, List.getElem_toArray, List.getElem_cons_succ, List.getElem_cons_zero, List.setIfInBounds_toArray, List.set_cons_zero, List.set_cons_succ])
        refine wpAnyH_take (i := 9) (v := ?_) rfl (by kernel_rfl) (by kernel_rfl) (by kernel_rfl) (fun _ _ _ h => h) (Or.inl ⟨by rfl, ?_⟩) (by assumption) ?_
        rotate_left
        · (intro w' hSw; (try dsimp only at hSw); go_simp; try with_reducible rfl)
        (try simp only [Act.put, List.getElem_toArray, List.getElem_cons_succ, List.getElem_cons_zero, List.setIfInBounds_toArray, List.set_cons_zero, List.set_cons_succ])
        refine wpAnyH_take (i := 10) (v := ?_) rfl (by kernel_rfl) (by kernel_rfl) (by kernel_rfl) (fun _ _ _ h => h) (Or.inl ⟨by rfl, ?_⟩) (by assumption) ?_
        rotate_left
        · (intro w' hSw; (try dsimp only at hSw); go_simp; try with_reducible rfl)
        (try simp only [Act.put, List.getElem_toArray, List.getElem_cons_succ, List.getElem_cons_zero, List.setIfInBounds_toArray, List.set_cons_zero, List.set_cons_succ])
        refine wpAnyH_take (i := 11) (v := ?_) rfl (by kernel_rfl) (by kernel_rfl) (by kernel_rfl) (fun _ _ _ h => h) (Or.inl ⟨by rfl, ?_⟩) (by assumption) ?_
        rotate_left
        · (intro w' hSw; (try dsimp only at hSw); go_simp; try with_reducible rfl)
        (try simp only [Act.put, List.getElem_toArray, List.getElem_cons_succ, List.getElem_cons_zero, List.setIfInBounds_toArray, List.set_cons_zero, List.set_cons_succ])
        refine wpAnyH_take (i := 12) (v := ?_) rfl (by kernel_rfl) (by kernel_rfl) (by kernel_rfl) (fun _ _ _ h => h) (Or.inl ⟨by rfl, ?_⟩) (by assumption) ?_
        rotate_left
        · (intro w' hSw; (try dsimp only at hSw); go_simp; try with_reducible rfl)
        (try simp only [Act.put, List.getElem_toArray, List.getElem_cons_succ, List.getElem_cons_zero, List.setIfInBounds_toArray, List.set_cons_zero, List.set_cons_succ])
        refine wpAnyH_take (i := 13) (v := ?_) rfl (by kernel_rfl) (by kernel_rfl) (by kernel_rfl) (fun _ _ _ h => h) (Or.inl ⟨by rfl, ?_⟩) (by assumption) ?_
        rotate_left
        · (intro w' hSw; (try dsimp only at hSw); go_simp; try with_reducible rfl)
        (try simp only [Act.put, List.getElem_toArray, List.getElem_cons_succ, List.getElem_cons_zero, List.setIfInBounds_toArray, List.set_cons_zero, List.set_cons_succ])
        refine wpAnyH_take (i := 14) (v := ?_) rfl (by kernel_rfl) (by kernel_rfl) (by kernel_rfl) (fun _ _ _ h => h) (Or.inl ⟨by rfl, ?_⟩) (by assumption) ?_
        rotate_left
        · (intro w' hSw; (try dsimp only at hSw); go_simp; try with_reducible rfl)
        (try simp only [Act.put, List.getElem_toArray, List.getElem_cons_succ, List.getElem_cons_zero, List.setIfInBounds_toArray, List.set_cons_zero, List.set_cons_succ])
        refine wpAnyH_take (i := 15) (v := ?_) rfl (by kernel_rfl) (by kernel_rfl) (by kernel_rfl) (fun _ _ _ h => h) (Or.inl ⟨by rfl, ?_⟩) (by assumption) ?_
        rotate_left
        · (intro w' hSw; (try dsimp only at hSw); go_simp; try with_reducible rfl)
        (try simp only [Act.put, List.getElem_toArray, List.getElem_cons_succ, List.getElem_cons_zero, List.setIfInBounds_toArray, List.set_cons_zero, List.set_cons_succ])
        refine wpAnyH_take (i := 16) (v := ?_) rfl (by kernel_rfl) (by kernel_rfl) (by kernel_rfl) (fun _ _ _ h => h) (Or.inl ⟨by rfl, ?_⟩) (by assumption) ?_
        rotate_left
        · (intro w' hSw; (try dsimp only at hSw); go_simp; try with_reducible rfl)
        (try simp only [Act.put, List.getElem_toArray, List.getElem_cons_succ, List.getElem_cons_zero, List.setIfInBounds_toArray, List.set_cons_zero, List.set_cons_succ])
        refine wpAnyH_take (i := 17) (v := ?_) rfl (by kernel_rfl) (by kernel_rfl) (by kernel_rfl) (fun _ _ _ h => h) (Or.inl ⟨by rfl, ?_⟩) (by assumption) ?_
        rotate_left
        · (intro w' hSw; (try dsimp only at hSw); go_simp; try with_reducible rfl)
        (try simp only [Act.put, List.getElem_toArray, List.getElem_cons_succ, List.getElem_cons_zero, List.setIfInBounds_toArray, List.set_cons_zero, List.set_cons_succ])
        refine wpAnyH_take (i := 18) (v := undef) rfl (by kernel_rfl) (by kernel_rfl) (by kernel_rfl) (fun _ _ _ h => h) (Or.inr ⟨by rfl, rfl⟩) (by assumption) ?_
        (try simp only [Act.put, List.getElem_toArray, List.getElem_cons_succ, List.getElem_cons_zero, List.setIfInBounds_toArray, List.set_cons_zero, List.set_cons_succ])
        refine wpAnyH_take (i := 19) (v := ?_) rfl (by kernel_rfl) (by kernel_rfl) (by kernel_rfl) (fun _ _ _ h => h) (Or.inl ⟨by rfl, ?_⟩) (by assumption) ?_
        rotate_left
        · (intro w' hSw; (try dsimp only at hSw); go_simp; try with_reducible rfl)
        (try simp only [Act.put, List.getElem_toArray, List.getElem_cons_succ, List.getElem_cons_zero, List.setIfInBounds_toArray, List.set_cons_zero, List.set_cons_succ])
        refine wpAnyH_take (i := 20) (v := ?_) rfl (by kernel_rfl) (by kernel_rfl) (by kernel_rfl) (fun _ _ _ h => h) (Or.inl ⟨by rfl, ?_⟩) (by assumption) ?_
        rotate_left
        · (intro w' hSw; (try dsimp only at hSw); go_simp; try with_reducible rfl)
        (try simp only [Act.put, List.getElem_toArray, List.getElem_cons_succ, List.getElem_cons_zero, List.setIfInBounds_toArray, List.set_cons_zero, List.set_cons_succ])
        refine wpAnyH_take (i := 21) (v := ?_) rfl (by kernel_rfl) (by kernel_rfl) (by kernel_rfl) (fun _ _ _ h => h) (Or.inl ⟨by rfl, ?_⟩) (by assumption) ?_
        rotate_left
        · (intro w' hSw; (try dsimp only at hSw); go_simp; try with_reducible rfl)
        (try simp only [Act.put, List.getElem_toArray, List.getElem_cons_succ, List.getElem_cons_zero, List.setIfInBounds_toArray, List.set_cons_zero, List.set_cons_succ])
        refine wpAnyH_take (i := 22) (v := ?_) rfl (by kernel_rfl) (by kernel_rfl) (by kernel_rfl) (fun _ _ _ h => h) (Or.inl ⟨by rfl, ?_⟩) (by assumption) ?_
        rotate_left
        · (intro w' hSw; (try dsimp only at hSw); go_simp; try with_reducible rfl)
        (try simp only [Act.put, List.getElem_toArray, List.getElem_cons_succ, List.getElem_cons_zero, List.setIfInBounds_toArray, List.set_cons_zero, List.set_cons_succ])
        refine wpAnyH_take (i := 23) (v := ?_) rfl (by kernel_rfl) (by kernel_rfl) (by kernel_rfl) (fun _ _ _ h => h) (Or.inl ⟨by rfl, ?_⟩) (by assumption) ?_
        rotate_left
        · (intro w' hSw; (try dsimp only at hSw); go_simp; try with_reducible rfl)
        (try simp only [Act.put, List.getElem_toArray, List.getElem_cons_succ, List.getElem_cons_zero, List.setIfInBounds_toArray, List.set_cons_zero, List.set_cons_succ])
        refine wpAnyH_ready (rs := [24]) (by kernel_rfl) (by simp) ?_
        refine AllReadyH.cons rfl (fun K hK => ?_) AllReadyH.nil
        go_simp
        (go_at_call 26; (with_reducible refine (CAY.out _ H2.out).mono ?_); (rintro e w7 ⟨rfl, H2, ⟨g0, g1, g2, g3, g4, g5⟩, ⟨k0, k1, k2, k3, k4, k5⟩, ⟨m0, m1, m2, m3, m4, m5⟩, ⟨u0, u1, u2, u3, u4, u5⟩⟩))
        clear hHeld
        first | (refine hK.out _ _ ?_ (fun hHeld => ?_)) | (go_wp2_with fail; refine hK.out _ _ ?_ (fun hHeld => ?_))
        · exact ⟨g0, g1, g2, g3, g4, g5, k0, k1, k2, k3, k4, k5, m0, m1, m2, m3, m4, m5, u0, u1, u2, u3, u4, u5, H2⟩
        clear hK K
        (try simp only [Act.put, List.getElem_toArray, List.getElem_cons_succ, List.getElem_cons_zero, List.setIfInBounds_toArray, List.set_cons_zero, List.set_cons_succ])
        refine wpAnyH_take (i := 25) (v := ?_) rfl (by kernel_rfl) (by kernel_rfl) (by kernel_rfl) (fun _ _ _ h => h) (Or.inl ⟨by rfl, ?_⟩) (by assumption) ?_
        rotate_left
        · (intro w' hSw; (try dsimp only at hSw); go_simp; try with_reducible rfl)
        (try simp only [Act.put, List.getElem_toArray, List.getElem_cons_succ, List.getElem_cons_zero, List.setIfInBounds_toArray, List.set_cons_zero, List.set_cons_succ])
        refine wpAnyH_take (i := 26) (v := ?_) rfl (by kernel_rfl) (by kernel_rfl) (by kernel_rfl) (fun _ _ _ h => h) (Or.inl ⟨by rfl, ?_⟩) (by assumption) ?_
        rotate_left
        · (intro w' hSw; (try dsimp only at hSw); go_simp; try with_reducible rfl)
        (try simp only [Act.put, List.getElem_toArray, List.getElem_cons_succ, List.getElem_cons_zero, List.setIfInBounds_toArray, List.set_cons_zero, List.set_cons_succ])
        refine wpAnyH_take (i := 27) (v := ?_) rfl (by kernel_rfl) (by kernel_rfl) (by kernel_rfl) (fun _ _ _ h => h) (Or.inl ⟨by rfl, ?_⟩) (by assumption) ?_
        rotate_left
        · (intro w' hSw; (try dsimp only at hSw); go_simp; try with_reducible rfl)
        (try simp only [Act.put, List.getElem_toArray, List.getElem_cons_succ, List.getElem_cons_zero, List.setIfInBounds_toArray, List.set_cons_zero, List.set_cons_succ])
        refine wpAnyH_take (i := 28) (v := ?_) rfl (by kernel_rfl) (by kernel_rfl) (by kernel_rfl) (fun _ _ _ h => h) (Or.inl ⟨by rfl, ?_⟩) (by assumption) ?_
        rotate_left
        · (intro w' hSw; (try dsimp only at hSw); go_simp; try with_reducible rfl)
        (try simp only [Act.put, List.getElem_toArray, List.getElem_cons_succ, List.getElem_cons_zero, List.setIfInBounds_toArray, List.set_cons_zero, List.set_cons_succ])
        refine wpAnyH_ready (rs := [29]) (by kernel_rfl) (by simp) ?_
        refine AllReadyH.cons rfl (fun K hK => ?_) AllReadyH.nil
        go_simp
        (go_at_call 28; (with_reducible refine (CPY.out _ H2.out).mono ?_); (rintro e w8 ⟨y2, rfl, heq, hin2, H2, ⟨g0, g1, g2, g3, g4, g5⟩, ⟨k0, k1, k2, k3, k4, k5⟩, ⟨m0, m1, m2, m3, m4, m5⟩, ⟨u0, u1, u2, u3, u4, u5⟩⟩; have HEQ := Lib.hid heq; have HIN2 := Lib.hid hin2; clear heq hin2))
        clear hHeld
        first | (refine hK.out _ _ ?_ (fun hHeld => ?_)) | (go_wp2_with fail; refine hK.out _ _ ?_ (fun hHeld => ?_))
        · exact ⟨g0, g1, g2, g3, g4, g5, k0, k1, k2, k3, k4, k5, m0, m1, m2, m3, m4, m5, u0, u1, u2, u3, u4, u5, H2⟩
        clear hK K
        (try simp only [Act.put, List.getElem_toArray, List.getElem_cons_succ, List.getElem_cons_zero, List.setIfInBounds_toArray, List.set_cons_zero, List.set_cons_succ])
        refine wpAnyH_ready (rs := [30]) (by kernel_rfl) (by simp) ?_
        refine AllReadyH.cons rfl (fun K hK => ?_) AllReadyH.nil
        go_simp
        (go_at_call 15; refine (eqNode_any 299 (.mk opy sy ny fy ty Ay cy ly) y2 w8 HDY.out H2.out.2.2 HIN2.out).mono ?_; (rintro e w10 ⟨rfl, hbz⟩; rw [HEQ.out]; have H2 := Lib.hid (H2.out.after hbz); obtain ⟨⟨g0, g1, g2, g3, g4, g5⟩, ⟨k0, k1, k2, k3, k4, k5⟩, ⟨m0, m1, m2, m3, m4, m5⟩, ⟨u0, u1, u2, u3, u4, u5⟩⟩ := H2.out.cells; clear hbz))
        clear hHeld
        first | (refine hK.out _ _ ?_ (fun hHeld => ?_)) | (go_wp2_with fail; refine hK.out _ _ ?_ (fun hHeld => ?_))
        · exact ⟨g0, g1, g2, g3, g4, g5, k0, k1, k2, k3, k4, k5, m0, m1, m2, m3, m4, m5, u0, u1, u2, u3, u4, u5, H2⟩
        clear hK K
        (try simp only [Act.put, List.getElem_toArray, List.getElem_cons_succ, List.getElem_cons_zero, List.setIfInBounds_toArray, List.set_cons_zero, List.set_cons_succ])
        refine wpAnyH_take (i := 31) (v := ?_) rfl (by kernel_rfl) (by kernel_rfl) (by kernel_rfl) (fun _ _ _ h => h) (Or.inl ⟨by rfl, ?_⟩) (by assumption) ?_
        rotate_left
        · (intro w' hSw; (try dsimp only at hSw); go_simp; try with_reducible rfl)
        (try simp only [Act.put, List.getElem_toArray, List.getElem_cons_succ, List.getElem_cons_zero, List.setIfInBounds_toArray, List.set_cons_zero, List.set_cons_succ])
        refine wpAnyH_take (i := 32) (v := ?_) rfl (by kernel_rfl) (by kernel_rfl) (by kernel_rfl) (fun _ _ _ h => h) (Or.inl ⟨by rfl, ?_⟩) (by assumption) ?_
        rotate_left
        · (intro w' hSw; (try dsimp only at hSw); go_simp; try with_reducible rfl)
        (try simp only [Act.put, List.getElem_toArray, List.getElem_cons_succ, List.getElem_cons_zero, List.setIfInBounds_toArray, List.set_cons_zero, List.set_cons_succ])
        refine wpAnyH_take (i := 33) (v := ?_) rfl (by kernel_rfl) (by kernel_rfl) (by kernel_rfl) (fun _ _ _ h => h) (Or.inl ⟨by rfl, ?_⟩) (by assumption) ?_
        rotate_left
        · (intro w' hSw; (try dsimp only at hSw); go_simp; try with_reducible rfl)
        (try simp only [Act.put, List.getElem_toArray, List.getElem_cons_succ, List.getElem_cons_zero, List.setIfInBounds_toArray, List.set_cons_zero, List.set_cons_succ])
        refine wpAnyH_take (i := 34) (v := ?_) rfl (by kernel_rfl) (by kernel_rfl) (by kernel_rfl) (fun _ _ _ h => h) (Or.inl ⟨by rfl, ?_⟩) (by assumption) ?_
        rotate_left
        · (intro w' hSw; (try dsimp only at hSw); go_simp; try with_reducible rfl)
        (try simp only [Act.put, List.getElem_toArray, List.getElem_cons_succ, List.getElem_cons_zero, List.setIfInBounds_toArray, List.set_cons_zero, List.set_cons_succ])
        refine wpAnyH_take (i := 35) (v := ?_) rfl (by kernel_rfl) (by kernel_rfl) (by kernel_rfl) (fun _ _ _ h => h) (Or.inl ⟨by rfl, ?_⟩) (by assumption) ?_
        rotate_left
        · (intro w' hSw; (try dsimp only at hSw); go_simp; try with_reducible rfl)
        (try simp only [Act.put, List.getElem_toArray, List.getElem_cons_succ, List.getElem_cons_zero, List.setIfInBounds_toArray, List.set_cons_zero, List.set_cons_succ])
        refine wpAnyH_ready (rs := [36]) (by kernel_rfl) (by simp) ?_
        refine AllReadyH.cons rfl (fun K hK => ?_) AllReadyH.nil
        go_simp
        (go_at_call 28; (with_reducible refine (CPB.out _ H2.out).mono ?_); (rintro e w9 ⟨y3, rfl, heq, hin2, H2, ⟨g0, g1, g2, g3, g4, g5⟩, ⟨k0, k1, k2, k3, k4, k5⟩, ⟨m0, m1, m2, m3, m4, m5⟩, ⟨u0, u1, u2, u3, u4, u5⟩⟩; have HEQ3 := Lib.hid heq; have HIN3 := Lib.hid hin2; clear heq hin2))
        clear hHeld
        first | (refine hK.out _ _ ?_ (fun hHeld => ?_)) | (go_wp2_with fail; refine hK.out _ _ ?_ (fun hHeld => ?_))
        · exact ⟨g0, g1, g2, g3, g4, g5, k0, k1, k2, k3, k4, k5, m0, m1, m2, m3, m4, m5, u0, u1, u2, u3, u4, u5, H2⟩
        clear hK K
        (try simp only [Act.put, List.getElem_toArray, List.getElem_cons_succ, List.getElem_cons_zero, List.setIfInBounds_toArray, List.set_cons_zero, List.set_cons_succ])
        refine wpAnyH_ready (rs := [37]) (by kernel_rfl) (by simp) ?_
        refine AllReadyH.cons rfl (fun K hK => ?_) AllReadyH.nil
        go_simp
        (go_at_call 15; refine (eqNode_any 299 (.mk opy sy ny fy ty Ay cy ly) y3 w9 HDY.out H2.out.2.2 HIN3.out).mono ?_; (rintro e w10 ⟨rfl, hbz⟩; rw [HEQ3.out]; have H2 := Lib.hid (H2.out.after hbz); obtain ⟨⟨g0, g1, g2, g3, g4, g5⟩, ⟨k0, k1, k2, k3, k4, k5⟩, ⟨m0, m1, m2, m3, m4, m5⟩, ⟨u0, u1, u2, u3, u4, u5⟩⟩ := H2.out.cells; clear hbz))
        clear hHeld
        first | (refine hK.out _ _ ?_ (fun hHeld => ?_)) | (go_wp2_with fail; refine hK.out _ _ ?_ (fun hHeld => ?_))
        · exact ⟨g0, g1, g2, g3, g4, g5, k0, k1, k2, k3, k4, k5, m0, m1, m2, m3, m4, m5, u0, u1, u2, u3, u4, u5, H2⟩
        clear hK K
        (try simp only [Act.put, List.getElem_toArray, List.getElem_cons_succ, List.getElem_cons_zero, List.setIfInBounds_toArray, List.set_cons_zero, List.set_cons_succ])
        refine wpAnyH_take (i := 38) (v := ?_) rfl (by kernel_rfl) (by kernel_rfl) (by kernel_rfl) (fun _ _ _ h => h) (Or.inl ⟨by rfl, ?_⟩) (by assumption) ?_
        rotate_left
        · (intro w' hSw; (try dsimp only at hSw); go_simp; try with_reducible rfl)
        (try simp only [Act.put, List.getElem_toArray, List.getElem_cons_succ, List.getElem_cons_zero, List.setIfInBounds_toArray, List.set_cons_zero, List.set_cons_succ])
        refine wpAnyH_take (i := 39) (v := ?_) rfl (by kernel_rfl) (by kernel_rfl) (by kernel_rfl) (fun _ _ _ h => h) (Or.inl ⟨by rfl, ?_⟩) (by assumption) ?_
        rotate_left
        · (intro w' hSw; (try dsimp only at hSw); go_simp; try with_reducible rfl)
        (try simp only [Act.put, List.getElem_toArray, List.getElem_cons_succ, List.getElem_cons_zero, List.setIfInBounds_toArray, List.set_cons_zero, List.set_cons_succ])
        refine wpAnyH_take (i := 40) (v := ?_) rfl (by kernel_rfl) (by kernel_rfl) (by kernel_rfl) (fun _ _ _ h => h) (Or.inl ⟨by rfl, ?_⟩) (by assumption) ?_
        rotate_left
        · (intro w' hSw; (try dsimp only at hSw); go_simp; try with_reducible rfl)
        (try simp only [Act.put, List.getElem_toArray, List.getElem_cons_succ, List.getElem_cons_zero, List.setIfInBounds_toArray, List.set_cons_zero, List.set_cons_succ])
        refine wpAnyH_ready (rs := [41]) (by kernel_rfl) (by simp) ?_
        refine AllReadyH.cons rfl (fun K hK => ?_) AllReadyH.nil
        go_simp
        (go_at_call 10; refine (awake_any _).mono ?_; (rintro e w11 ⟨rfl, hbz⟩; have H2 := Lib.hid (H2.out.after hbz); obtain ⟨⟨g0, g1, g2, g3, g4, g5⟩, ⟨k0, k1, k2, k3, k4, k5⟩, ⟨m0, m1, m2, m3, m4, m5⟩, ⟨u0, u1, u2, u3, u4, u5⟩⟩ := H2.out.cells; clear hbz))
        clear hHeld
        first | (refine hK.out _ _ ?_ (fun hHeld => ?_)) | (go_wp2_with fail; refine hK.out _ _ ?_ (fun hHeld => ?_))
        · exact ⟨g0, g1, g2, g3, g4, g5, k0, k1, k2, k3, k4, k5, m0, m1, m2, m3, m4, m5, u0, u1, u2, u3, u4, u5, H2⟩
        clear hK K
        (try simp only [Act.put, List.getElem_toArray, List.getElem_cons_succ, List.getElem_cons_zero, List.setIfInBounds_toArray, List.set_cons_zero, List.set_cons_succ])
        refine wpAnyH_take (i := 42) (v := ?_) rfl (by kernel_rfl) (by kernel_rfl) (by kernel_rfl) (fun _ _ _ h => h) (Or.inl ⟨by rfl, ?_⟩) (by assumption) ?_
        rotate_left
        · (intro w' hSw; (try dsimp only at hSw); go_simp; try with_reducible rfl)
        (try simp only [Act.put, List.getElem_toArray, List.getElem_cons_succ, List.getElem_cons_zero, List.setIfInBounds_toArray, List.set_cons_zero, List.set_cons_succ])
        refine wpAnyH_take (i := 43) (v := ?_) rfl (by kernel_rfl) (by kernel_rfl) (by kernel_rfl) (fun _ _ _ h => h) (Or.inl ⟨by rfl, ?_⟩) (by assumption) ?_
        rotate_left
        · (intro w' hSw; (try dsimp only at hSw); go_simp; try with_reducible rfl)
        (try simp only [Act.put, List.getElem_toArray, List.getElem_cons_succ, List.getElem_cons_zero, List.setIfInBounds_toArray, List.set_cons_zero, List.set_cons_succ])
        refine wpAnyH_done (by kernel_rfl) ?_ _
        go_wp2_with fail
        go_ret
        exact ⟨by first | rfl | simp, H2.out.1.2.2.2⟩

end Go.Proofs.Ytcndfihcjaoifaa
