/- TreeLeaves: the law's own walk. -/
import Derived.Test.YtcndfihcjaoifaaLefR

namespace Go.Proofs.Ytcndfihcjaoifaa
open Go.RowKit Go.Maps

set_option maxHeartbeats 2000000 in
set_option maxRecDepth 100000 in
theorem treeLeaves_any (tok : Int) (x : Nd) (w : World) (h : x.In w w.heap.size) :
    Calls Try.prog 5 #[x.val, .int .i64 tok] w fun e w' => e = .returned (.bool true) ∧ Below w.heap.size w w' := by
  have HH := Lib.hid h
  clear h
  obtain ⟨W0, hW0⟩ : ∃ W0, W0 = w.alloc (.cells x.arr 24) := ⟨_, rfl⟩
  have T0 : Hid (NBlk W0 w.heap.size x) := by rw [hW0]; exact Blk.new w _ _
  have T1 : Hid (Below w.heap.size w W0) := by rw [hW0]; exact (Below.refl _ _).alloc (Nat.le_refl _) _
  have cal := heavy_any none none 0 0 0 0 x W0 (HH.out.below T1.out T1.out.size)
  have HW0 := Lib.hid hW0
  have HX := Lib.hid HH.out
  clear hW0
  obtain ⟨y, hy⟩ : ∃ y, y = x := ⟨_, rfl⟩
  have HYX := Lib.hid hy
  obtain ⟨op, s, n, f, t, A, c, l⟩ := x
  rw [Nd.val_mk] at cal ⊢
  unfold Nd.arr at HW0
  have CAL := Lib.hid cal
  clear cal hy
  go_enter Try.func5, Try.ntmps5
  go_wp2_with fail
  rw [← HW0.out]
  refine CAL.out.mono ?_
  rintro e w1 ⟨hv, rfl, hb1, hh⟩
  have B0 := Lib.hid (T0.out.below hb1 T0.out.lt)
  have HB1 : Hid (Below w.heap.size w w1) := T1.out.trans (hb1.mono T1.out.size)
  have HHV := Lib.hid hh
  clear hh hb1 CAL T0 T1 HW0
  cases hv with
  | true =>
    clear HHV
    go_wp2_with fail
    refine (awake_any w1).mono ?_
    rintro e w2 ⟨rfl, hb2⟩
    have HB2 : Hid (Below w.heap.size w w2) := HB1.out.trans (hb2.mono HB1.out.size)
    clear hb2
    go_wp2_with fail
    go_ret
    exact ⟨rfl, HB2.out⟩
  | false =>
    obtain ⟨_, _, hdp, _⟩ := HHV.out (by first | rfl | trivial)
    have HDP := Lib.hid hdp
    obtain ⟨⟨c0, c1, c2, c3, c4, c5⟩, e0, e1, e2, e3, e4, e5⟩ := B0.out.all
    have cal := leaf_any tok (.mk op s n f t A c l) w1 hdp (HX.out.below HB1.out HB1.out.size)
    rw [Nd.val_mk] at cal
    have CAL := Lib.hid cal
    clear hdp cal HHV
    go_wp2_with fail
    refine CAL.out.mono ?_
    rintro e w2 ⟨hb2, hcase⟩
    have HB2 : Hid (Below w.heap.size w w2) := HB1.out.trans (hb2.mono HB1.out.size)
    obtain ⟨⟨c0, c1, c2, c3, c4, c5⟩, e0, e1, e2, e3, e4, e5⟩ := (B0.out.below hb2 B0.out.lt).all
    have cal := refLeaf_any tok 299 (.mk op s n f t A c l) w2 (Nat.le_refl _) HDP.out (HX.out.below HB2.out HB2.out.size)
    rw [Nd.val_mk] at cal
    have CAL2 := Lib.hid cal
    have hlen := leafN_len tok 299 (.mk op s n f t A c l) HDP.out
    have HLEN := Lib.hid hlen
    clear cal CAL hb2 hlen
    rcases hcase with ⟨h1, rfl⟩ | ⟨h1, PA, pc, rfl, hR, hN⟩
    · have H1 := Lib.hid h1
      clear h1
      go_wp2_with fail
      refine CAL2.out.mono ?_
      rintro e w3 ⟨hb3, ⟨_, rfl⟩ | ⟨h2, _⟩⟩
      · have HB3 : Hid (Below w.heap.size w w3) := HB2.out.trans (hb3.mono HB2.out.size)
        have cal := eqInts_any none none 0 0 [] [] w3 (by simp) (by simp) Rd.nil Rd.nil rfl
        simp only [List.length_nil] at cal
        have CAL3 := Lib.hid cal
        clear cal hb3 CAL2
        go_wp2_with fail
        refine CAL3.out.mono ?_
        rintro e w4 ⟨rfl, hb4⟩
        have HB4 : Hid (Below w.heap.size w w4) := HB3.out.trans (hb4.mono HB3.out.size)
        clear hb4 CAL3
        go_wp2_with fail
        refine (awake_any w4).mono ?_
        rintro e w5 ⟨rfl, hb5⟩
        have HB5 : Hid (Below w.heap.size w w5) := HB4.out.trans (hb5.mono HB4.out.size)
        clear hb5
        go_wp2_with fail
        go_ret
        exact ⟨rfl, HB5.out⟩
      · rw [H1.out] at h2; cases h2
    · have H1 := Lib.hid h1
      obtain ⟨xs, hxs⟩ : ∃ xs, xs = (Nd.mk op s n f t A c l).leafN tok := ⟨_, rfl⟩
      rw [← hxs] at hR HLEN ⊢
      unfold LeafP at CAL2
      rw [← hxs] at CAL2
      have HR := Lib.hid hR
      clear h1 hN hR hxs
      go_wp2_with fail
      refine CAL2.out.mono ?_
      rintro e w3 ⟨hb3, ⟨h2, _⟩ | ⟨_, QA, qc, rfl, hR2, _⟩⟩
      · rw [H1.out] at h2; cases h2
      · have HB3 : Hid (Below w.heap.size w w3) := HB2.out.trans (hb3.mono HB2.out.size)
        have cal := eqInts_any PA QA pc qc xs xs w3 (by have := HLEN.out; omega) (by have := HLEN.out; omega) ((HR.out.below hb3).more hb3.size) hR2 rfl
        have CAL3 := Lib.hid cal
        clear cal hb3 CAL2 hR2 HR
        go_wp2_with fail
        refine CAL3.out.mono ?_
        rintro e w4 ⟨rfl, hb4⟩
        have HB4 : Hid (Below w.heap.size w w4) := HB3.out.trans (hb4.mono HB3.out.size)
        clear hb4 CAL3
        go_wp2_with fail
        refine (awake_any w4).mono ?_
        rintro e w5 ⟨rfl, hb5⟩
        have HB5 : Hid (Below w.heap.size w w5) := HB4.out.trans (hb5.mono HB4.out.size)
        clear hb5
        go_wp2_with fail
        go_ret
        exact ⟨rfl, HB5.out⟩

end Go.Proofs.Ytcndfihcjaoifaa
