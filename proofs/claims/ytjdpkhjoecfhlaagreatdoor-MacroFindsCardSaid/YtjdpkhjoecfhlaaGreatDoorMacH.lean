/- Macro: the document's Define. -/
import Derived.Test.YtjdpkhjoecfhlaaGreatDoorMacRp
import Derived.Test.YtjdpkhjoecfhlaaGreatDoorDirQ
namespace Go.Proofs.YtjdpkhjoecfhlaaGreatDoor
open Go.RowKit Go.Maps Go.Shelf

set_option maxHeartbeats 1000000 in
set_option maxRecDepth 100000 in
theorem refDefine_any (k a : Int) (b x : ByteArray) (w : World) (hx : x.size ≤ 20001) :
    Calls Tryz.prog 63 #[.agg #[.int .i64 k, .string b, .string x, .int .i64 a]] w fun e w' => Below w.heap.size w w' ∧ DefM w.heap.size (dfnB k x) e w' := by
  have hb1 : Below w.heap.size w (w.alloc (.cells #[.int .i64 k, .string b, .string x, .int .i64 a] 29)) := (Below.refl _ _).alloc (Nat.le_refl _) _
  obtain ⟨W0, hW0⟩ : ∃ W0, W0 = (w.alloc (.cells #[.int .i64 k, .string b, .string x, .int .i64 a] 29)).alloc (.cells zeroA6 75) := ⟨_, rfl⟩
  have KO := refKind_any k a b x W0 hx
  obtain ⟨K, hK⟩ : ∃ K, K = kindB k x := ⟨_, rfl⟩
  rw [← hK] at KO
  have hd : dfnB k x = if K = defineBs then defW x false else if K = undefBs then defW x true else none := by rw [hK]; rfl
  have F1 : Blk W0 w.heap.size 29 #[.int .i64 k, .string b, .string x, .int .i64 a] := by rw [hW0]; exact (Blk.new w _ _).alloc _
  have F2 : Blk W0 (w.heap.size + 1) 75 zeroA6 := by
    have := Blk.new (w.alloc (.cells #[.int .i64 k, .string b, .string x, .int .i64 a] 29)) 75 zeroA6
    rw [show (w.alloc (.cells #[.int .i64 k, .string b, .string x, .int .i64 a] 29)).heap.size = w.heap.size + 1 by simp] at this
    rw [hW0]
    exact this
  have F3 : Below w.heap.size w W0 := by rw [hW0]; exact hb1.alloc (by simp) _
  obtain ⟨D, hDD⟩ : ∃ D, D = dfnB k x := ⟨_, rfl⟩
  rw [← hDD]
  have HD := Lib.hid (hDD.trans hd)
  clear hDD
  have HKO := Lib.hid KO
  have HF1 := Lib.hid F1
  have HF2 := Lib.hid F2
  have HF3 := Lib.hid F3
  have HKK := Lib.hid hK
  have HW0 := Lib.hid hW0
  clear KO F1 F2 F3 hK hd hb1 hW0
  go_enter Tryz.func63, Tryz.ntmps63
  go_upto_region 1 with (fail)
  rw [← HW0.out]
  have x0 := HF1.out.cell 0
  have x1 := HF1.out.cell 1
  have x2 := HF1.out.cell 2
  have x3 := HF1.out.cell 3
  simp at x0 x1 x2 x3
  go_wp2_with fail
  refine HKO.out.mono ?_
  rintro e w2 ⟨rfl, hb2⟩
  have B4a := HF2.out.below hb2 HF2.out.lt
  have BWa := HF3.out.trans (hb2.mono HF3.out.size)
  have y0 := (HF1.out.below hb2 HF1.out.lt).cell 0
  have y1 := (HF1.out.below hb2 HF1.out.lt).cell 1
  have y2 := (HF1.out.below hb2 HF1.out.lt).cell 2
  have y3 := (HF1.out.below hb2 HF1.out.lt).cell 3
  simp at y0 y1 y2 y3
  have B4 := Lib.hid B4a
  have BW := Lib.hid BWa
  clear hb2 B4a BWa x0 x1 x2 x3 HKO HF1 HF2 HF3
  by_cases hD : K = defineBs
  · obtain ⟨hk7, hhd⟩ := kindB_line k x (HKK.out ▸ .inl hD)
    subst hk7
    have HWO := Lib.hid (refWords_ok a b x w2 hx hhd)
    have HWS := Lib.hid (words_size x hx)
    have HGD := Lib.hid (words_good x)
    have HDW : Hid (D = dfnW false (wordsL x)) := by unfold Hid; rw [HD.out]; rw [if_pos hD]; rfl
    subst hD
    unfold defineBs at *
    clear hhd hx HKK HD
    go_wp2_with fail
    refine HWO.out.mono ?_
    rintro e w3 ⟨v3, rfl, hO3, hb3⟩
    obtain ⟨A3, c3, rfl⟩ := own_len hO3
    have hR : TRd w3 w3.heap.size A3 (wordsL x) := Rd.of_own hO3
    have HO3 := Lib.hid hO3
    have HRL := Lib.hid hR
    have BW3 : Hid (Below w.heap.size w w3) := BW.out.trans (hb3.mono BW.out.size)
    have B43 : Hid (Blk w3 (w.heap.size + 1) 75 zeroA6) := B4.out.below hb3 B4.out.lt
    clear y0 y1 y2 y3 hR hb3 HWO BW B4 hO3
    have BW := Lib.hid BW3.out
    have B4 := Lib.hid B43.out
    clear BW3 B43
    cases hw : wordsL x with
    | nil =>
      have HN : Hid (D = none) := by unfold Hid; rw [HDW.out, hw]; rfl
      clear HRL HWS HGD HDW hw
      have z0 := B4.out.cell 0
      have z1 := B4.out.cell 1
      have z2 := B4.out.cell 2
      have z3 := B4.out.cell 3
      have z4 := B4.out.cell 4
      have z5 := B4.out.cell 5
      have k0 := B4.out.frozen 0
      have k1 := B4.out.frozen 1
      have k2 := B4.out.frozen 2
      have k3 := B4.out.frozen 3
      have k4 := B4.out.frozen 4
      have k5 := B4.out.frozen 5
      simp at z0 z1 z2 z3 z4 z5
      go_wp2_with fail
      try simp only [Exit.inBlock, Exit.then]
      refine bodyPost_ret (v := .tuple #[zeroM, .bool false]) ?_ rfl ⟨?_, ?_⟩
      · rw [results_cell_tmp rfl]
        unfold zeroM zeroA6
        go_simp
      · refine BW.out.trans ?_
        exact (((((((Below.refl _ _).setCell (by simp) _).setCell (by simp) _).setCell (by simp) _).setCell (by simp) _).setCell (by simp) _).setCell (by simp) _)
      · rw [HN.out]
        rfl
    | cons t0 r0 =>
      cases r0 with
      | nil =>
        have HN : Hid (D = none) := by unfold Hid; rw [HDW.out, hw]; rfl
        clear HRL HWS HGD HDW hw
        have z0 := B4.out.cell 0
        have z1 := B4.out.cell 1
        have z2 := B4.out.cell 2
        have z3 := B4.out.cell 3
        have z4 := B4.out.cell 4
        have z5 := B4.out.cell 5
        have k0 := B4.out.frozen 0
        have k1 := B4.out.frozen 1
        have k2 := B4.out.frozen 2
        have k3 := B4.out.frozen 3
        have k4 := B4.out.frozen 4
        have k5 := B4.out.frozen 5
        simp at z0 z1 z2 z3 z4 z5
        go_wp2_with fail
        try simp only [Exit.inBlock, Exit.then]
        refine bodyPost_ret (v := .tuple #[zeroM, .bool false]) ?_ rfl ⟨?_, ?_⟩
        · rw [results_cell_tmp rfl]
          unfold zeroM zeroA6
          go_simp
        · refine BW.out.trans ?_
          exact (((((((Below.refl _ _).setCell (by simp) _).setCell (by simp) _).setCell (by simp) _).setCell (by simp) _).setCell (by simp) _).setCell (by simp) _)
        · rw [HN.out]
          rfl
      | cons t1 r =>
        obtain ⟨g, rfl, hgl, hRW⟩ : ∃ g, A3 = some ⟨g, 0, none⟩ ∧ g < w3.heap.size ∧ WAt w3 g 0 (t0 :: t1 :: r) := by
          have h := HRL.out
          have hO := HO3.out
          rw [hw] at h hO
          obtain ⟨g, cap, e, hgb, hgl⟩ := hO.form (by simp)
          injection e with e1 e2 e3
          subst e1
          exact ⟨g, rfl, hgl, rd_wat h⟩
        obtain ⟨d0, d1, d2, d3⟩ := wat_head (wat_tail hRW)
        have HRW := Lib.hid hRW
        have HGL := Lib.hid hgl
        have HWd : Hid (D = dfnW false (t0 :: t1 :: r)) := by unfold Hid; rw [HDW.out, hw]
        have HWS2 := HWS.out
        rw [hw] at HWS2
        have HLEN : Hid ((t0 :: t1 :: r).length ≤ 30000) := by have := HWS2.1; unfold Hid; omega
        have HGR : Hid (∀ t ∈ t0 :: t1 :: r, WordOk t ∧ t.x.size ≤ 20001) := fun t ht => ⟨HGD.out t (by rw [hw]; exact ht), HWS2.2 t ht⟩
        obtain ⟨n, hn⟩ : ∃ n, n = (t0 :: t1 :: r).length := ⟨_, rfl⟩
        have hn2 : 2 ≤ n := by rw [hn, List.length_cons, List.length_cons]; omega
        rw [← hn]
        have HN0 := Lib.hid hn
        have q2 : ¬ (n : Int) < 2 := by omega
        have q3 : (1 : Int) < (n : Int) := by omega
        clear HRL HO3 HWS HGD HDW hw hRW hgl HWS2 hn
        obtain ⟨t1k, t1b, t1x, t1a⟩ := t1
        simp only at d0 d1 d2 d3
        by_cases hk1 : t1k = 1
        · subst hk1
          have HD2 : Hid (D = (defP r).map fun p => (⟨t1x, p.1, p.2.1, p.2.2.map Tk.x, false⟩ : Dfn)) := by unfold Hid; rw [HWd.out]; simp [dfnW]
          have hlt4 := B4.out.lt
          clear HWd
          go_upto_region 11 with (fail)
          have HLT4 := Lib.hid hlt4
          clear q2 q3 hlt4 d0 d1 d2 d3
          go_cut [66] (fun v66 wx => v66 = .bool (defT r) ∧ Hid (Blk wx w3.heap.size 75 #[.string t1x, .int .i64 0, .slice none 0 0, .bool false, .string ⟨#[]⟩, .bool false]) ∧ Hid (Below w3.heap.size w3 wx))
          case first =>
            have hF : Blk (w3.alloc (.cells #[.string t1x, .int .i64 0, .slice none 0 0, .bool false, .string ⟨#[]⟩, .bool false] 75)) w3.heap.size 75 #[.string t1x, .int .i64 0, .slice none 0 0, .bool false, .string ⟨#[]⟩, .bool false] := Blk.new _ _ _
            have HF := Lib.hid hF
            have HFB : Hid (Below w3.heap.size w3 (w3.alloc (.cells #[.string t1x, .int .i64 0, .slice none 0 0, .bool false, .string ⟨#[]⟩, .bool false] 75))) := (Below.refl _ _).alloc (Nat.le_refl _) _
            clear hF
            cases r with
            | nil =>
              have q4 : ¬ (2 : Int) < (n : Int) := by have := HN0.out; simp only [List.length_cons, List.length_nil] at this; omega
              go_wp2_with fail
              go_meet
              exact ⟨rfl, HF.out, HFB.out⟩
            | cons t2 r =>
              have q4 : (2 : Int) < (n : Int) := by have := HN0.out; simp only [List.length_cons] at this; omega
              obtain ⟨c0, c1, c2, c3⟩ := wat_head (wat_tail (wat_tail (wat_below HRW.out HGL.out HFB.out)))
              have hg2 := (HGR.out t2 (by simp)).1
              have hoo := oneOf_text t2 hg2 openB (.inl rfl)
              obtain ⟨t2k, t2b, t2x, t2a⟩ := t2
              simp only at c0 c1 c2 c3 hoo
              have hT : defT (⟨t2k, t2b, t2x, t2a⟩ :: r) = (t2x.data.toList == [40] && t2b.data.toList.isEmpty) := by
                show (oneOf t2k t2x openB && t2b.data.toList.isEmpty) = _
                rw [hoo]
                rfl
              have HT := Lib.hid hT
              clear hg2 hoo hT
              by_cases hx4 : t2x.data.toList = [40]
              · obtain rfl : t2x = ⟨#[40]⟩ := ByteArray.ext (Array.toList_inj.1 hx4)
                clear hx4
                cases hbt : t2b.data.toList with
                | nil =>
                  have ht : t2b.toList.isEmpty = true := by rw [Lib.toList_data, hbt]; rfl
                  have HT2 : Hid (defT (⟨t2k, t2b, ⟨#[40]⟩, t2a⟩ :: r) = true) := by unfold Hid; rw [HT.out, hbt]; rfl
                  clear hbt HT
                  go_wp2_with fail
                  go_meet
                  exact ⟨by rw [HT2.out], HF.out, HFB.out⟩
                | cons b0 b1 =>
                  have ht : t2b.toList.isEmpty = false := by rw [Lib.toList_data, hbt]; rfl
                  have HT2 : Hid (defT (⟨t2k, t2b, ⟨#[40]⟩, t2a⟩ :: r) = false) := by unfold Hid; rw [HT.out, hbt]; rfl
                  clear hbt HT
                  go_wp2_with fail
                  go_meet
                  exact ⟨by rw [HT2.out], HF.out, HFB.out⟩
              · have ex : (t2x.toList == [40]) = false := by rw [Lib.toList_data]; simpa using hx4
                have HT2 : Hid (defT (⟨t2k, t2b, t2x, t2a⟩ :: r) = false) := by unfold Hid; rw [HT.out, beq_eq_false_iff_ne.2 hx4]; rfl
                clear hx4 HT
                go_wp2_with fail
                go_meet
                exact ⟨by rw [HT2.out], HF.out, HFB.out⟩
          case rest =>
            obtain ⟨rfl, hB7, hB⟩ := hcut
            obtain ⟨w4, hw4⟩ : ∃ x : World, x = wc := ⟨_, rfl⟩
            subst hw4
            go_upto_if 66 with (fail)
            go_cut [8] (fun v8 wx => ∃ (a2 : Nat) (ps : List ByteArray) (fn : Bool) (v : Value), v8 = .int .i64 a2 ∧ a2 ≤ n ∧ Hid (defP r = some (ps, fn, (t0 :: ⟨1, t1b, t1x, t1a⟩ :: r).drop a2)) ∧ Hid (wx.ownsRow w3.heap.size 9 1 v ps.length (ps.map Value.string)) ∧ Hid (Blk wx w3.heap.size 75 #[.string t1x, .int .i64 0, v, .bool fn, .string ⟨#[]⟩, .bool false]) ∧ Hid (Below w3.heap.size w3 wx))
            case first =>
              cases hT : defT r with
              | false =>
                have hP := Lib.hid (defP_no r hT)
                clear hT
                go_wp2_with fail
                go_meet
                exact ⟨2, [], false, .slice none 0 0, rfl, hn2, hP.out, World.ownsRow_nil _ _ _ _, hB7.out, hB.out⟩
              | true =>
                cases r with
                | nil => cases hT
                | cons t2 r =>
                  have HP := Lib.hid (defP_yes t2 r hT)
                  clear hT
                  have HCC : Hid (Calls Tryz.prog 88 #[.slice (some ⟨g, 0, none⟩) n c3, .int .i64 2] w4 fun e w' => Below w4.heap.size w4 w' ∧ RParP w4.heap.size n (parL r) e w') := by
                    have h := refParams_any g c3 (t0 :: ⟨1, t1b, t1x, t1a⟩ :: t2 :: r) 2 w4 (Nat.lt_of_lt_of_le HGL.out hB.out.size) HLEN.out (wat_below HRW.out HGL.out hB.out) (fun t ht => (HGR.out t ht).1) (by simp)
                    rw [← HN0.out] at h
                    exact h
                  have hsuf : ∀ p, parL r = some p → p.2 <:+ r := fun p h => parL_suffix r p h
                  have HSUF := Lib.hid hsuf
                  clear hsuf
                  go_wp2_with fail
                  refine HCC.out.mono ?_
                  rintro e w5 ⟨hb5, hp⟩
                  have hG7 := hB7.out.below hb5 hB7.out.lt
                  have y2 := hG7.cell 2
                  have y3 := hG7.cell 3
                  have f2 := hG7.frozen 2
                  have f3 := hG7.frozen 3
                  simp at y2 y3
                  have HG7 := Lib.hid hG7
                  have hbw := Lib.hid (hB.out.trans (hb5.mono hB.out.size))
                  have HSZ := Lib.hid hB.out.size
                  clear hb5 hG7 HCC
                  cases hpl : parL r with
                  | none =>
                    rw [hpl] at hp
                    have HN : Hid (D = none) := by unfold Hid; rw [HD2.out, HP.out, hpl]; rfl
                    have he : e = .returned (.tuple #[.slice none 0 0, .int .i64 0, .bool false]) := hp
                    clear hp hpl HP HD2
                    subst he
                    have B45 : Hid (Blk w5 (w.heap.size + 1) 75 zeroA6) := B4.out.below hbw.out HLT4.out
                    have z0 := B45.out.cell 0
                    have z1 := B45.out.cell 1
                    have z2 := B45.out.cell 2
                    have z3 := B45.out.cell 3
                    have z4 := B45.out.cell 4
                    have z5 := B45.out.cell 5
                    have k0 := B45.out.frozen 0
                    have k1 := B45.out.frozen 1
                    have k2 := B45.out.frozen 2
                    have k3 := B45.out.frozen 3
                    have k4 := B45.out.frozen 4
                    have k5 := B45.out.frozen 5
                    simp at z0 z1 z2 z3 z4 z5
                    have hlt4 := HLT4.out
                    go_wp2_with fail
                    try simp only [Exit.inBlock, Exit.then]
                    refine bodyPost_ret (v := .tuple #[zeroM, .bool false]) ?_ rfl ⟨?_, ?_⟩
                    · rw [results_cell_tmp rfl]
                      unfold zeroM zeroA6
                      go_simp
                    · refine (BW.out.trans (hbw.out.mono BW.out.size)).trans ?_
                      exact (((((((Below.refl w.heap.size w5).setCell (by have := BW.out.size; simp; omega) _).setCell (by simp) _).setCell (by simp) _).setCell (by simp) _).setCell (by simp) _).setCell (by simp) _).setCell (by simp) _
                    · rw [HN.out]
                      rfl
                  | some q =>
                    obtain ⟨ps, r3⟩ := q
                    rw [hpl] at hp
                    obtain ⟨v, rfl, hO⟩ := hp
                    obtain ⟨A5, ca5, rfl⟩ := own_len hO
                    have hs := HSUF.out _ hpl
                    have hlen3 : r3.length ≤ r.length := hs.length_le
                    have hr3 : (t0 :: ⟨1, t1b, t1x, t1a⟩ :: t2 :: r).drop (n - r3.length) = r3 := by
                      have h1 : r3 <:+ t0 :: ⟨1, t1b, t1x, t1a⟩ :: t2 :: r := hs.trans ⟨[t0, ⟨1, t1b, t1x, t1a⟩, t2], rfl⟩
                      rw [HN0.out]
                      exact (List.suffix_iff_eq_drop.1 h1).symm
                    have hn' : Hid (defP (t2 :: r) = some (ps, true, (t0 :: ⟨1, t1b, t1x, t1a⟩ :: t2 :: r).drop (n - r3.length))) := by unfold Hid; rw [HP.out, hpl, hr3]; rfl
                    have HO := Lib.hid hO
                    clear hO hpl HP hs hr3 HSUF hlen3
                    go_wp2_with fail
                    go_meet
                    have ne : ∀ q, (Value.slice A5 ps.length ca5).ownBlock = some q → q ≠ w3.heap.size := fun q e h => by
                      subst h
                      obtain ⟨cur, hcur⟩ := own_typeL HO.out e
                      have h2 : w5.heap[w3.heap.size]? = _ := HG7.out
                      rw [hcur] at h2
                      injection h2 with h2
                      injection h2 with _ h2
                      exact absurd h2 (by decide)
                    refine ⟨n - r3.length, ps, true, .slice A5 ps.length ca5, rfl, Nat.sub_le _ _, hn'.out, ?_, ?_, ?_⟩
                    · exact own_baseL (own_set (own_set HO.out ne) ne) HSZ.out
                    · exact (HG7.out.set 2 _).set 3 _
                    · exact (hbw.out.setCell (p := ⟨w3.heap.size, 2, none⟩) (by simp) _).setCell (p := ⟨w3.heap.size, 3, none⟩) (by simp) _
            case rest =>
              clear hB7 hB
              obtain ⟨a2, ps, fn, v, rfl, ha2, hP, hO, hB7, hB⟩ := hcut
              obtain ⟨w6, hw6⟩ : ∃ x : World, x = wc := ⟨_, rfl⟩
              subst hw6
              obtain ⟨i0, hin, hz0, hz1, hz2⟩ := info_parts infoStrM
              obtain ⟨L, hL⟩ : ∃ L, L = t0 :: ⟨1, t1b, t1x, t1a⟩ :: r := ⟨_, rfl⟩
              rw [← hL] at hP HN0 HRW HGR HLEN
              clear hL
              have hn30 : n ≤ 30000 := by have := HN0.out; have := HLEN.out; omega
              go_wp2_with fail
              go_loopw [8, 10] (fun v8 v10 wr => ∃ (j : Nat) (acc : List ByteArray), j ≤ n ∧ v8 = .int .i64 j ∧ Hid (acc.length + (n - j) ≤ 30000) ∧ Hid (wr.ownsRow w6.heap.size 9 1 v10 acc.length (acc.map Value.string)) ∧ Hid (acc ++ (L.drop j).map Tk.x = (L.drop a2).map Tk.x) ∧ Hid (Below w6.heap.size w6 wr) ∧ Hid (∃ A c, v10 = .slice A acc.length c)) (fun v8 _ _ => n - (intOf v8).toNat)
              case atStart => exact ⟨a2, [], ha2, rfl, (by unfold Hid; simp; omega), World.ownsRow_nil _ _ _ _, rfl, Below.refl _ _, ⟨none, 0, rfl⟩⟩
              case round =>
                obtain ⟨j, acc, hj, rfl, hal, hOw, hA, hbr, hform⟩ := hrel
                obtain ⟨A, ca, rfl⟩ := hform.out
                clear hform
                by_cases hlt : j < n
                · have hltl : j < L.length := by rw [← HN0.out]; exact hlt
                  have hbz := hB.out.trans (hbr.out.mono hB.out.size)
                  obtain ⟨c0, c1, c2, c3'⟩ := wat_below HRW.out HGL.out hbz j hltl
                  rw [Nat.zero_add] at c0 c1 c2 c3'
                  have hA2 := hA.out
                  rw [List.drop_eq_getElem_cons hltl, List.map_cons] at hA2
                  have r2 : 0 ≤ (j : Int) := by omega
                  have r3 : (j : Int) < (n : Int) := by omega
                  have hbs : w6.heap.size ≤ wr.heap.size := hbr.out.size
                  generalize L[j] = p at *
                  obtain ⟨pk, pb, px, pa⟩ := p
                  simp only at c0 c1 c2 c3' hA2
                  have hn31 : acc.length + 1 ≤ 30000 := by have := hal.out; omega
                  have HA2 := Lib.hid hA2
                  have HAPP : Hid (∀ (W w5 : World) (v' : Value), W = wr.alloc (.cells #[.string px] 9) → w5.ownsRow w6.heap.size 9 1 v' (acc.length + 1) (acc.map Value.string ++ [Value.string px]) → W.grownBy w5 (Value.slice A acc.length ca).ownBlock → Hid (w5.ownsRow w6.heap.size 9 1 v' (acc ++ [px]).length ((acc ++ [px]).map Value.string)) ∧ Hid (Below w6.heap.size w6 w5)) := fun W w5 v' e h1 h2 => by
                    subst e
                    refine ⟨?_, ?_⟩
                    · have e1 : (acc ++ [px]).length = acc.length + 1 := by simp
                      have e2 : (acc ++ [px]).map Value.string = acc.map Value.string ++ [Value.string px] := by simp
                      unfold Hid
                      rw [e1, e2]
                      exact h1
                    · have hbb : Below w6.heap.size w6 (wr.alloc (.cells #[.string px] 9)) := hbr.out.alloc hbr.out.size _
                      refine hbb.trans ?_
                      cases ho : (Value.slice A acc.length ca).ownBlock with
                      | none => rw [ho] at h2; exact ⟨h2.os, h2.tape, h2.output, h2.size, fun i hi => h2.block i (by have := hbb.size; omega) (by simp)⟩
                      | some q => rw [ho] at h2; exact below_grown h2 (hOw.out.lt q ho).1 hbb.size
                  clear hA hA2 hbz
                  go_wp2_with (at_builtin; refine wpList_append_own_at _ rfl (.tmp 82) (.tmp 88) 59 rfl w6.heap.size 9 i0 _ 1 16 Tryz.underlying59 hin hz0 hz1 hz2 rfl (by decide) _ acc.length (acc.map Value.string) rfl (hOw.out.alloc _) ⟨wr.heap.size, 0, none⟩ 1 1 [Value.string px] rfl rfl (cell_one_new _ _ _) (by simp [Value.oneCell']) (by unfold maxLen; omega) (by omega) (by simp; omega) ?_; intro v' w5 hown' hgr _ hat; obtain ⟨g5, cap5, rfl, hgb5, hglt5⟩ := hown'.form (by omega); obtain ⟨hO5, hB5⟩ := HAPP.out _ _ _ rfl hown' hgr; have hHi := Lib.hid hown'; have hgi := Lib.hid hgr; clear hown' hgr hat)
                  go_roundw
                  case rel => exact ⟨j + 1, acc ++ [px], by omega, by go_num, by unfold Hid; have h1 := hal.out; rw [List.length_append, List.length_singleton]; omega, by have := hO5.out; rw [show (acc ++ [px]).length = acc.length + 1 by simp] at this ⊢; exact this, by unfold Hid; rw [← HA2.out]; simp, hB5.out, ⟨some ⟨g5, 0, none⟩, cap5, by simp⟩⟩
                  case measure => simp [intOf]; omega
                · obtain rfl : j = n := by omega
                  have hacc : acc = (L.drop a2).map Tk.x := by
                    have := hA.out
                    rw [List.drop_eq_nil_of_le (by rw [← HN0.out]; exact Nat.le_refl _)] at this
                    simpa using this
                  have hmem : ∀ y ∈ acc, ∃ t ∈ L, y = t.x := fun y hy => by
                    rw [hacc] at hy
                    obtain ⟨t, ht, rfl⟩ := List.mem_map.1 hy
                    exact ⟨t, List.mem_of_mem_drop ht, rfl⟩
                  have HJ := Lib.hid (joined_any A ca acc wr (by have := hal.out; omega) (Rd.of_own hOw.out) (fun y hy => by obtain ⟨t, ht, rfl⟩ := hmem y hy; exact (HGR.out t ht).1.full) (fun y hy => by obtain ⟨t, ht, rfl⟩ := hmem y hy; exact (HGR.out t ht).2))
                  obtain ⟨bd, hbd⟩ : ∃ bd, bd = joinB acc := ⟨_, rfl⟩
                  rw [← hbd] at HJ
                  have HD3 : Hid (D = some ⟨t1x, ps, fn, acc, false⟩) := by unfold Hid; rw [HD2.out, hP.out, hacc]; rfl
                  have HBD := Lib.hid hbd
                  have hO6 := own_belowD hO.out hbr.out
                  obtain ⟨A5, ca5, rfl⟩ := own_len hO6
                  have M7 : Hid (Blk wr w3.heap.size 75 #[.string t1x, .int .i64 0, .slice A5 ps.length ca5, .bool fn, .string ⟨#[]⟩, .bool false]) := hB7.out.below hbr.out hB7.out.lt
                  have MB := Lib.hid (hB.out.trans (hbr.out.mono hB.out.size))
                  have M4 : Hid (Blk wr (w.heap.size + 1) 75 zeroA6) := B4.out.below MB.out HLT4.out
                  have HO6 := Lib.hid hO6
                  have hlt4 := HLT4.out
                  clear hacc hmem hbd hA hP HD2 hO6 hO hB7 hB hbr hOw
                  have z0 := M4.out.cell 0
                  have z1 := M4.out.cell 1
                  have z2 := M4.out.cell 2
                  have z3 := M4.out.cell 3
                  have z4 := M4.out.cell 4
                  have z5 := M4.out.cell 5
                  have k0 := M4.out.frozen 0
                  have k1 := M4.out.frozen 1
                  have k2 := M4.out.frozen 2
                  have k3 := M4.out.frozen 3
                  have k4 := M4.out.frozen 4
                  have k5 := M4.out.frozen 5
                  simp at z0 z1 z2 z3 z4 z5
                  have y0 := M7.out.cell 0
                  have y1 := M7.out.cell 1
                  have y2 := M7.out.cell 2
                  have y3 := M7.out.cell 3
                  have y4 := M7.out.cell 4
                  have y5 := M7.out.cell 5
                  have f0 := M7.out.frozen 0
                  have f1 := M7.out.frozen 1
                  have f2 := M7.out.frozen 2
                  have f3 := M7.out.frozen 3
                  have f4 := M7.out.frozen 4
                  have f5 := M7.out.frozen 5
                  simp at y0 y1 y2 y3 y4 y5
                  go_wp2_with fail
                  refine HJ.out.mono ?_
                  rintro e w7 ⟨rfl, rfl⟩
                  go_wp2_with fail
                  try simp only [Exit.inBlock, Exit.then]
                  refine bodyPost_ret (v := .tuple #[.agg #[.string t1x, .int .i64 0, .slice A5 ps.length ca5, .bool fn, .string bd, .bool false], .bool true]) ?_ rfl ⟨?_, ?_⟩
                  · rw [results_cell_tmp rfl]
                    go_simp
                  · refine (BW.out.trans (MB.out.mono BW.out.size)).trans ?_
                    exact (((((((Below.refl w.heap.size w7).setCell (by have := BW.out.size; simp; omega) _).setCell (by simp) _).setCell (by simp) _).setCell (by simp) _).setCell (by simp) _).setCell (by simp) _).setCell (by simp) _
                  · rw [HD3.out]
                    have ne7 : ∀ q, (Value.slice A5 ps.length ca5).ownBlock = some q → q ≠ w3.heap.size := fun q e h => by
                      subst h
                      obtain ⟨cur, hcur⟩ := own_typeL HO6.out e
                      have h2 : w7.heap[w3.heap.size]? = _ := M7.out
                      rw [hcur] at h2
                      injection h2 with h2
                      injection h2 with _ h2
                      exact absurd h2 (by decide)
                    have ne4 : ∀ q, (Value.slice A5 ps.length ca5).ownBlock = some q → q ≠ w.heap.size + 1 := fun q e h => by
                      have := (HO6.out.lt q e).1
                      omega
                    refine ⟨.slice A5 ps.length ca5, by rw [HBD.out]; rfl, own_baseL (own_set (own_set (own_set (own_set (own_set (own_set (own_set HO6.out ne7) ne4) ne4) ne4) ne4) ne4) ne4) BW.out.size⟩

        · have HN : Hid (D = none) := by unfold Hid; rw [HWd.out]; simp [dfnW, hk1]
          have p1 : ¬ (t1k : Int) = 1 := by omega
          have p2 : ((t1k : Int) == 1) = false := by simpa using p1
          have p3 : ((t1k : Int) != 1) = true := by rw [bne, p2]; rfl
          clear hk1 HWd HGR HLEN HRW
          have z0 := B4.out.cell 0
          have z1 := B4.out.cell 1
          have z2 := B4.out.cell 2
          have z3 := B4.out.cell 3
          have z4 := B4.out.cell 4
          have z5 := B4.out.cell 5
          have k0 := B4.out.frozen 0
          have k1 := B4.out.frozen 1
          have k2 := B4.out.frozen 2
          have k3 := B4.out.frozen 3
          have k4 := B4.out.frozen 4
          have k5 := B4.out.frozen 5
          simp at z0 z1 z2 z3 z4 z5
          go_wp2_with fail
          try simp only [Exit.inBlock, Exit.then]
          refine bodyPost_ret (v := .tuple #[zeroM, .bool false]) ?_ rfl ⟨?_, ?_⟩
          · rw [results_cell_tmp rfl]
            unfold zeroM zeroA6
            go_simp
          · refine BW.out.trans ?_
            exact (((((((Below.refl _ _).setCell (by simp) _).setCell (by simp) _).setCell (by simp) _).setCell (by simp) _).setCell (by simp) _).setCell (by simp) _)
          · rw [HN.out]
            rfl
  · by_cases hU : K = undefBs
    · obtain ⟨hk7, hhd⟩ := kindB_line k x (HKK.out ▸ .inr hU)
      subst hk7
      have HWO := Lib.hid (refWords_ok a b x w2 hx hhd)
      have HWS := Lib.hid (words_size x hx)
      have HGD := Lib.hid (words_good x)
      have HDW : Hid (D = dfnW true (wordsL x)) := by unfold Hid; rw [HD.out]; rw [if_neg hD, if_pos hU]; rfl
      subst hU
      unfold undefBs at *
      clear hhd hx HKK HD
      go_wp2_with fail
      refine HWO.out.mono ?_
      rintro e w3 ⟨v3, rfl, hO3, hb3⟩
      obtain ⟨A3, c3, rfl⟩ := own_len hO3
      have hR : TRd w3 w3.heap.size A3 (wordsL x) := Rd.of_own hO3
      have HO3 := Lib.hid hO3
      have HRL := Lib.hid hR
      have BW3 : Hid (Below w.heap.size w w3) := BW.out.trans (hb3.mono BW.out.size)
      have B43 : Hid (Blk w3 (w.heap.size + 1) 75 zeroA6) := B4.out.below hb3 B4.out.lt
      clear y0 y1 y2 y3 hR hb3 HWO BW B4 hO3
      have BW := Lib.hid BW3.out
      have B4 := Lib.hid B43.out
      clear BW3 B43
      cases hw : wordsL x with
      | nil =>
        have HN : Hid (D = none) := by unfold Hid; rw [HDW.out, hw]; rfl
        clear HRL HWS HGD HDW hw
        have z0 := B4.out.cell 0
        have z1 := B4.out.cell 1
        have z2 := B4.out.cell 2
        have z3 := B4.out.cell 3
        have z4 := B4.out.cell 4
        have z5 := B4.out.cell 5
        have k0 := B4.out.frozen 0
        have k1 := B4.out.frozen 1
        have k2 := B4.out.frozen 2
        have k3 := B4.out.frozen 3
        have k4 := B4.out.frozen 4
        have k5 := B4.out.frozen 5
        simp at z0 z1 z2 z3 z4 z5
        go_wp2_with fail
        try simp only [Exit.inBlock, Exit.then]
        refine bodyPost_ret (v := .tuple #[zeroM, .bool false]) ?_ rfl ⟨?_, ?_⟩
        · rw [results_cell_tmp rfl]
          unfold zeroM zeroA6
          go_simp
        · refine BW.out.trans ?_
          exact (((((((Below.refl _ _).setCell (by simp) _).setCell (by simp) _).setCell (by simp) _).setCell (by simp) _).setCell (by simp) _).setCell (by simp) _)
        · rw [HN.out]
          rfl
      | cons t0 r0 =>
        cases r0 with
        | nil =>
          have HN : Hid (D = none) := by unfold Hid; rw [HDW.out, hw]; rfl
          clear HRL HWS HGD HDW hw
          have z0 := B4.out.cell 0
          have z1 := B4.out.cell 1
          have z2 := B4.out.cell 2
          have z3 := B4.out.cell 3
          have z4 := B4.out.cell 4
          have z5 := B4.out.cell 5
          have k0 := B4.out.frozen 0
          have k1 := B4.out.frozen 1
          have k2 := B4.out.frozen 2
          have k3 := B4.out.frozen 3
          have k4 := B4.out.frozen 4
          have k5 := B4.out.frozen 5
          simp at z0 z1 z2 z3 z4 z5
          go_wp2_with fail
          try simp only [Exit.inBlock, Exit.then]
          refine bodyPost_ret (v := .tuple #[zeroM, .bool false]) ?_ rfl ⟨?_, ?_⟩
          · rw [results_cell_tmp rfl]
            unfold zeroM zeroA6
            go_simp
          · refine BW.out.trans ?_
            exact (((((((Below.refl _ _).setCell (by simp) _).setCell (by simp) _).setCell (by simp) _).setCell (by simp) _).setCell (by simp) _).setCell (by simp) _)
          · rw [HN.out]
            rfl
        | cons t1 r =>
          obtain ⟨g, rfl, hgl, hRW⟩ : ∃ g, A3 = some ⟨g, 0, none⟩ ∧ g < w3.heap.size ∧ WAt w3 g 0 (t0 :: t1 :: r) := by
            have h := HRL.out
            have hO := HO3.out
            rw [hw] at h hO
            obtain ⟨g, cap, e, hgb, hgl⟩ := hO.form (by simp)
            injection e with e1 e2 e3
            subst e1
            exact ⟨g, rfl, hgl, rd_wat h⟩
          obtain ⟨d0, d1, d2, d3⟩ := wat_head (wat_tail hRW)
          have HRW := Lib.hid hRW
          have HGL := Lib.hid hgl
          have HWd : Hid (D = dfnW true (t0 :: t1 :: r)) := by unfold Hid; rw [HDW.out, hw]
          have HWS2 := HWS.out
          rw [hw] at HWS2
          have HLEN : Hid ((t0 :: t1 :: r).length ≤ 30000) := by have := HWS2.1; unfold Hid; omega
          have HGR : Hid (∀ t ∈ t0 :: t1 :: r, WordOk t ∧ t.x.size ≤ 20001) := fun t ht => ⟨HGD.out t (by rw [hw]; exact ht), HWS2.2 t ht⟩
          obtain ⟨n, hn⟩ : ∃ n, n = (t0 :: t1 :: r).length := ⟨_, rfl⟩
          have hn2 : 2 ≤ n := by rw [hn, List.length_cons, List.length_cons]; omega
          rw [← hn]
          have HN0 := Lib.hid hn
          have q2 : ¬ (n : Int) < 2 := by omega
          have q3 : (1 : Int) < (n : Int) := by omega
          clear HRL HO3 HWS HGD HDW hw hRW hgl HWS2 hn
          obtain ⟨t1k, t1b, t1x, t1a⟩ := t1
          simp only at d0 d1 d2 d3
          by_cases hk1 : t1k = 1
          · subst hk1
            have HN : Hid (D = some ⟨t1x, [], false, [], true⟩) := by unfold Hid; rw [HWd.out]; simp [dfnW]
            have hlt4 := B4.out.lt
            have z0 := B4.out.cell 0
            have z1 := B4.out.cell 1
            have z2 := B4.out.cell 2
            have z3 := B4.out.cell 3
            have z4 := B4.out.cell 4
            have z5 := B4.out.cell 5
            have k0 := B4.out.frozen 0
            have k1 := B4.out.frozen 1
            have k2 := B4.out.frozen 2
            have k3 := B4.out.frozen 3
            have k4 := B4.out.frozen 4
            have k5 := B4.out.frozen 5
            simp at z0 z1 z2 z3 z4 z5
            go_wp2_with fail
            try simp only [Exit.inBlock, Exit.then]
            refine bodyPost_ret (v := .tuple #[.agg #[.string t1x, .int .i64 0, .slice none 0 0, .bool false, .string ⟨#[]⟩, .bool true], .bool true]) ?_ rfl ⟨?_, ?_⟩
            · rw [results_cell_tmp rfl]
              go_simp
            · refine BW.out.trans ?_
              exact ((((((((Below.refl w.heap.size w3).setCell (by simp) _).setCell (by simp) _).setCell (by simp) _).setCell (by simp) _).setCell (by simp) _).setCell (by simp) _).alloc (by have := BW.out.size; simp; omega) _)
            · rw [HN.out]
              exact ⟨.slice none 0 0, rfl, World.ownsRow_nil _ _ _ _⟩

          · have HN : Hid (D = none) := by unfold Hid; rw [HWd.out]; simp [dfnW, hk1]
            have p1 : ¬ (t1k : Int) = 1 := by omega
            have p2 : ((t1k : Int) == 1) = false := by simpa using p1
            have p3 : ((t1k : Int) != 1) = true := by rw [bne, p2]; rfl
            clear hk1 HWd HGR HLEN HRW
            have z0 := B4.out.cell 0
            have z1 := B4.out.cell 1
            have z2 := B4.out.cell 2
            have z3 := B4.out.cell 3
            have z4 := B4.out.cell 4
            have z5 := B4.out.cell 5
            have k0 := B4.out.frozen 0
            have k1 := B4.out.frozen 1
            have k2 := B4.out.frozen 2
            have k3 := B4.out.frozen 3
            have k4 := B4.out.frozen 4
            have k5 := B4.out.frozen 5
            simp at z0 z1 z2 z3 z4 z5
            go_wp2_with fail
            try simp only [Exit.inBlock, Exit.then]
            refine bodyPost_ret (v := .tuple #[zeroM, .bool false]) ?_ rfl ⟨?_, ?_⟩
            · rw [results_cell_tmp rfl]
              unfold zeroM zeroA6
              go_simp
            · refine BW.out.trans ?_
              exact (((((((Below.refl _ _).setCell (by simp) _).setCell (by simp) _).setCell (by simp) _).setCell (by simp) _).setCell (by simp) _).setCell (by simp) _)
            · rw [HN.out]
              rfl
    · have HN : Hid (D = none) := by unfold Hid; rw [HD.out, if_neg hD, if_neg hU]
      have e1 : (K.toList == [100, 101, 102, 105, 110, 101]) = false := by
        rw [beq_eq_false_iff_ne, Lib.toList_data]
        exact fun e => hD (ByteArray.ext (Array.toList_inj.1 e))
      have e2 : (K.toList == [117, 110, 100, 101, 102]) = false := by
        rw [beq_eq_false_iff_ne, Lib.toList_data]
        exact fun e => hU (ByteArray.ext (Array.toList_inj.1 e))
      clear hD hU y0 y1 y2 y3
      have z0 := B4.out.cell 0
      have z1 := B4.out.cell 1
      have z2 := B4.out.cell 2
      have z3 := B4.out.cell 3
      have z4 := B4.out.cell 4
      have z5 := B4.out.cell 5
      have k0 := B4.out.frozen 0
      have k1 := B4.out.frozen 1
      have k2 := B4.out.frozen 2
      have k3 := B4.out.frozen 3
      have k4 := B4.out.frozen 4
      have k5 := B4.out.frozen 5
      simp at z0 z1 z2 z3 z4 z5
      go_wp2_with fail
      try simp only [Exit.inBlock, Exit.then]
      refine bodyPost_ret (v := .tuple #[zeroM, .bool false]) ?_ rfl ⟨?_, ?_⟩
      · rw [results_cell_tmp rfl]
        unfold zeroM zeroA6
        go_simp
      · refine BW.out.trans ?_
        exact (((((((Below.refl _ _).setCell (by simp) _).setCell (by simp) _).setCell (by simp) _).setCell (by simp) _).setCell (by simp) _).setCell (by simp) _)
      · rw [HN.out]
        rfl

end Go.Proofs.YtjdpkhjoecfhlaaGreatDoor
