/- Macro: the document's Defs, Find. The law MacroFinds. -/
import Derived.Test.YtjdpkhjoecfhlaaGreatDoorTBefo

namespace Go.Proofs.YtjdpkhjoecfhlaaGreatDoor
open Go.RowKit Go.Maps Go.Shelf

theorem infoDefR : (Tryz.prog.info? 75).map (fun i => (i.zero, i.size, i.bytes)) = some (some (.agg #[.string ⟨#[]⟩, .int .i64 0, .slice none 0 0, .bool false, .string ⟨#[]⟩, .bool false]), 6, 80) := by kernel_rfl

set_option maxHeartbeats 1000000 in
set_option maxRecDepth 100000 in
theorem refDefs_any (A : Option Addr) (c : Nat) (l : List Tz) (w : World) (hl : l.length ≤ 600) (hx : ∀ t ∈ l, t.x.size ≤ 20001) (hR : ZRd w w.heap.size A l) :
    Calls Tryz.prog 33 #[.slice A l.length c] w fun e w' => ∃ v, e = .returned v ∧ Below w.heap.size w w' ∧ DefRow w' w.heap.size 75 v (defsF 0 l) := by
  obtain ⟨i0, hin, hz0, hz1, hz2⟩ := info_parts infoDefR
  have HR := Lib.hid hR
  have HL := Lib.hid hl
  have HX := Lib.hid hx
  obtain ⟨n, hn⟩ : ∃ n, n = l.length := ⟨_, rfl⟩
  rw [← hn]
  have HN := Lib.hid hn
  have hn6 : n ≤ 600 := by omega
  clear hR hl hx hn
  go_enter Tryz.func33, Tryz.ntmps33
  go_wp2_with fail
  go_loopw [3, 4] (fun v3 v10 wr => ∃ k : Nat, k ≤ n ∧ v10 = .int .i64 k ∧ Hid (DefRow wr w.heap.size 75 v3 (defsF 0 (l.take k))) ∧ Hid (Below w.heap.size w wr)) (fun _ v10 _ => n - (intOf v10).toNat)
  case atStart => exact ⟨0, Nat.zero_le _, rfl, by unfold Hid; exact DefRow.nil _ _ _, Below.refl _ _⟩
  case round =>
    obtain ⟨k, hk, rfl, hD, hB⟩ := hrel
    by_cases hlt : k < n
    · have hkl : k < l.length := by rw [← HN.out]; exact hlt
      obtain ⟨b, off, rfl, hbb, c0, c1, c2, c3⟩ := (HR.out.below hB.out).at_ k hkl
      have hltI : (k : Int) < (n : Int) := by omega
      have hstep := defsF_take l k hkl
      have hxs := HX.out l[k] (List.getElem_mem hkl)
      have hlen := defsF_len 0 (l.take k)
      rw [List.length_take] at hlen
      generalize l[k] = t at *
      obtain ⟨tk, tb, tx, ta⟩ := t
      simp only at c0 c1 c2 c3 hstep hxs
      have HDF := Lib.hid (fun W (_ : Below wr.heap.size wr W) => refDefine_any tk ta tb tx W hxs)
      obtain ⟨D, hDD⟩ : ∃ D, D = dfnB tk tx := ⟨_, rfl⟩
      rw [← hDD] at HDF hstep
      have HST := Lib.hid hstep
      have HLN : Hid ((defsF 0 (l.take k)).length ≤ 600) := by unfold Hid; omega
      obtain ⟨A3, c3', rfl⟩ := hD.out.form
      clear hstep hDD hxs hlen hkl
      have HB1 : Hid (Below wr.heap.size wr wr) := Below.refl _ _
      go_wp2_with fail
      refine (HDF.out _ HB1.out).mono ?_
      rintro e w2 ⟨hb2, hr2⟩
      have HB2 := Lib.hid (HB1.out.trans (hb2.mono HB1.out.size))
      have HD2 := Lib.hid (hD.out.below HB2.out)
      have HBW := Lib.hid (hB.out.trans (HB2.out.mono hB.out.size))
      clear hb2 HDF c0 c1 c2 c3
      cases D with
      | none =>
        have he : e = .returned (.tuple #[zeroM, .bool false]) := hr2
        subst he
        clear hr2
        unfold zeroM
        have HS : Hid (defsF 0 (l.take (k + 1)) = defsF 0 (l.take k)) := by unfold Hid; rw [HST.out, List.append_nil]
        clear HST
        go_wp2_with fail
        go_roundw
        case rel => exact ⟨k + 1, by omega, by go_num, by unfold Hid; rw [HS.out]; exact HD2.out.below ((Below.refl _ _).alloc (Nat.le_refl _) _), HBW.out.alloc HBW.out.size _⟩
        case measure => simp [intOf]; omega
      | some d =>
        obtain ⟨v, rfl, hO⟩ := hr2
        obtain ⟨A5, ca5, rfl⟩ := own_len hO
        have HO := Lib.hid hO
        obtain ⟨bd, hbd⟩ : ∃ bd, bd = bodyB d := ⟨_, rfl⟩
        rw [← hbd]
        have HBD := Lib.hid hbd
        obtain ⟨dnm, dps, dfn, dbw, dgn⟩ := d
        simp only at HO HBD
        obtain ⟨es, hes, hrow, hpar⟩ := HD2.out
        have HES := Lib.hid hes
        have HROW := Lib.hid hrow
        have HPAR := Lib.hid hpar
        clear hO hbd hes hrow hpar HD2 hD
        obtain ⟨m, hm⟩ : ∃ m, m = (defsF 0 (l.take k)).length := ⟨_, rfl⟩
        rw [← hm] at HROW HLN ⊢
        have HM := Lib.hid hm
        have hm6 := HLN.out
        clear hm
        have HNW : Hid (∀ j u, [Value.string dnm, .int .i64 k, .slice A5 dps.length ca5, .bool dfn, .string bd, .bool dgn][j]? = some u → ((w2.alloc (.cells #[.string dnm, .int .i64 k, .slice A5 dps.length ca5, .bool dfn, .string bd, .bool dgn] 75)).alloc (.cells #[.string dnm, .int .i64 k, .slice A5 dps.length ca5, .bool dfn, .string bd, .bool dgn] 75)).cell? ((⟨w2.heap.size + 1, 0, none⟩ : Addr).add j) = some u) := by
          have h := cells_new6 (w2.alloc (.cells #[.string dnm, .int .i64 k, .slice A5 dps.length ca5, .bool dfn, .string bd, .bool dgn] 75)) 75 (.string dnm) (.int .i64 k) (.slice A5 dps.length ca5) (.bool dfn) (.string bd) (.bool dgn)
          rw [show (w2.alloc (.cells #[.string dnm, .int .i64 k, .slice A5 dps.length ca5, .bool dfn, .string bd, .bool dgn] 75)).heap.size = w2.heap.size + 1 by simp] at h
          exact h
        have hbs : w.heap.size ≤ w2.heap.size := HBW.out.size
        go_wp2_with (at_builtin; refine wpList_append_own_at _ rfl (.tmp 24) (.tmp 26) 70 rfl w.heap.size 75 i0 _ 6 80 Tryz.underlying70 hin hz0 hz1 hz2 rfl (by decide) _ m (cellsM es) rfl ((HROW.out.alloc _).alloc _) ⟨w2.heap.size + 1, 0, none⟩ 1 1 [Value.string dnm, .int .i64 k, .slice A5 dps.length ca5, .bool dfn, .string bd, .bool dgn] rfl rfl HNW.out (by simp [Value.oneCell']) (by unfold maxLen; omega) (by omega) (by simp; omega) ?_; intro v' w5 hown' hgr _ hat; obtain ⟨g5, cap5, rfl, hgb5, hglt5⟩ := hown'.form (by omega); have hHi := Lib.hid hown'; have hgi := Lib.hid hgr; clear hown' hgr hat)
        go_roundw
        case rel =>
          refine ⟨k + 1, by omega, by go_num, ?_, ?_⟩
          · refine ⟨es ++ [((k, ⟨dnm, dps, dfn, dbw, dgn⟩), .slice A5 dps.length ca5)], ?_, ?_, ?_⟩
            · rw [List.map_append, HES.out, HST.out]
              rfl
            · have h := hHi.out
              rw [HST.out, List.length_append, List.length_singleton, ← HM.out, cellsM_append]
              rw [HBD.out] at h
              exact h
            · intro e he
              have h2 := (HROW.out.alloc (.cells #[.string dnm, .int .i64 k, .slice A5 dps.length ca5, .bool dfn, .string bd, .bool dgn] 75)).alloc (.cells #[.string dnm, .int .i64 k, .slice A5 dps.length ca5, .bool dfn, .string bd, .bool dgn] 75)
              rcases List.mem_append.1 he with he | he
              · exact own_apartL (((HPAR.out e he).alloc _).alloc _) h2 (by decide) hgi.out
              · rw [List.mem_singleton.1 he]
                exact own_apartL (((own_baseL HO.out (Nat.zero_le _)).alloc _).alloc _) h2 (by decide) hgi.out
          · have hbb := (HBW.out.alloc hbs (.cells #[.string dnm, .int .i64 k, .slice A5 dps.length ca5, .bool dfn, .string bd, .bool dgn] 75)).alloc (by simp; omega) (.cells #[.string dnm, .int .i64 k, .slice A5 dps.length ca5, .bool dfn, .string bd, .bool dgn] 75)
            exact hbb.trans (grow_below (v := .slice A3 m c3') hgi.out ((HROW.out.alloc _).alloc _) hbb.size)
        case measure => simp [intOf]; omega
    · obtain rfl : k = n := by omega
      have HE : Hid (l.take k = l) := List.take_of_length_le (by rw [← HN.out]; exact Nat.le_refl _)
      have hltI : ¬ (k : Int) < (k : Int) := by omega
      obtain ⟨A3, c3', rfl⟩ := hD.out.form
      clear hlt
      go_wp2_with fail
      go_ret
      refine ⟨_, rfl, hB.out, ?_⟩
      have := hD.out
      rw [HE.out] at this ⊢
      exact this

/-- going down through the list -/
def downF (nm : ByteArray) (a : Int) (ds : List (Nat × Dfn)) : Nat → Option (Nat × Dfn)
  | 0 => none
  | k + 1 => match ds[k]? with | some e => if e.2.nm = nm ∧ (e.1 : Int) < a then (if e.2.gone = true then none else some e) else downF nm a ds k | none => downF nm a ds k
theorem downF_step (nm : ByteArray) (a : Int) (ds : List (Nat × Dfn)) (k : Nat) (h : k < ds.length) : downF nm a ds (k + 1) = if ds[k].2.nm = nm ∧ (ds[k].1 : Int) < a then (if ds[k].2.gone = true then none else some ds[k]) else downF nm a ds k := by
  rw [downF, List.getElem?_eq_getElem h]
theorem downF_last (nm : ByteArray) (m : Nat) (ds : List (Nat × Dfn)) : ∀ k, k ≤ ds.length → downF nm m ds k = (if lastIx nm m ds k = -1 then none else (ds[(lastIx nm m ds k).toNat]?).filter fun e => !e.2.gone)
  | 0, _ => by simp [downF, lastIx]
  | k + 1, hk => by
    have hkl : k < ds.length := by omega
    rw [downF_step nm m ds k hkl, lastIx_step nm m ds k hkl]
    by_cases hc : cnt nm m ds[k] = true
    · have h2 := (cnt_iff nm m ds[k]).1 hc
      have e1 : ¬ ((k : Int) = -1) := by omega
      rw [if_pos ⟨h2.1, by omega⟩, if_pos hc, if_neg e1]
      simp only [Int.toNat_natCast, List.getElem?_eq_getElem hkl, Option.filter_some]
      cases ds[k].2.gone
      · rfl
      · rfl
    · rw [if_neg (fun h => hc ((cnt_iff nm m ds[k]).2 ⟨h.1, by omega⟩)), if_neg hc]
      exact downF_last nm m ds k (by omega)
theorem downF_is (nm : ByteArray) (l : List Tz) (a : Int) : downF nm a (defsF 0 l) (defsF 0 l).length = findK nm l (max 0 (min a (l.length : Int))).toNat := by
  have key : downF nm a (defsF 0 l) (defsF 0 l).length = downF nm ((max 0 (min a (l.length : Int))).toNat : Nat) (defsF 0 l) (defsF 0 l).length := by
    have h : ∀ k, k ≤ (defsF 0 l).length → downF nm a (defsF 0 l) k = downF nm ((max 0 (min a (l.length : Int))).toNat : Nat) (defsF 0 l) k := fun k => by
      induction k with
      | zero => intro _; rfl
      | succ k ih =>
        intro hk
        have hkl : k < (defsF 0 l).length := by omega
        rw [downF_step _ _ _ _ hkl, downF_step _ _ _ _ hkl, ih (by omega)]
        obtain ⟨j, hj, h1, _⟩ := (mem_defs l 0 (defsF 0 l)[k].1 (defsF 0 l)[k].2).1 (List.getElem_mem hkl)
        have e : ((defsF 0 l)[k].1 : Int) < a ↔ ((defsF 0 l)[k].1 : Int) < ((max 0 (min a (l.length : Int))).toNat : Nat) := by omega
        simp only [e]
    exact h _ (Nat.le_refl _)
  rw [key, downF_last nm _ _ _ (Nat.le_refl _)]
  generalize (max 0 (min a (l.length : Int))).toNat = m
  unfold findK
  rcases last_is nm l m with ⟨h1, h2⟩ | ⟨j, hj, h1, h2⟩
  · rw [if_pos h1, h2]; rfl
  · rw [if_neg (by omega), h2, h1]
    simp only [Int.toNat_natCast, List.getElem?_eq_getElem hj]

set_option maxHeartbeats 1000000 in
set_option maxRecDepth 100000 in
theorem refFind_any (A : Option Addr) (c : Nat) (l : List Tz) (nm : ByteArray) (at_ : Int) (w : World) (hl : l.length ≤ 600) (hx : ∀ t ∈ l, t.x.size ≤ 20001) (hR : ZRd w w.heap.size A l) :
    Calls Tryz.prog 36 #[.slice A l.length c, .string nm, .int .i64 at_] w fun e w' => Below w.heap.size w w' ∧ FindM 0 (findK nm l (max 0 (min at_ l.length)).toNat) e w' := by
  obtain ⟨W0, hW0⟩ : ∃ W0, W0 = w.alloc (.cells zeroA6 75) := ⟨_, rfl⟩
  have F2 : Blk W0 w.heap.size 75 zeroA6 := by rw [hW0]; exact Blk.new w _ _
  have F3 : Below w.heap.size w W0 := by rw [hW0]; exact (Below.refl _ _).alloc (Nat.le_refl _) _
  have KO := refDefs_any A c l W0 hl hx ((hR.below F3).up F3.size)
  obtain ⟨O, hO⟩ : ∃ O, O = findK nm l (max 0 (min at_ (l.length : Int))).toNat := ⟨_, rfl⟩
  rw [← hO]
  have hO2 := hO.trans (downF_is nm l at_).symm
  have hDL := defsF_len 0 l
  obtain ⟨ds, hds⟩ : ∃ ds, ds = defsF 0 l := ⟨_, rfl⟩
  rw [← hds] at KO hO2 hDL
  have HKO := Lib.hid KO
  have HF2 := Lib.hid F2
  have HF3 := Lib.hid F3
  have HW0 := Lib.hid hW0
  have HO := Lib.hid hO2
  obtain ⟨n, hn⟩ : ∃ n, n = l.length := ⟨_, rfl⟩
  have hn6 : ds.length ≤ 600 := by omega
  have HN6 := Lib.hid hn6
  rw [← hn] at HKO ⊢
  clear KO F2 F3 hO hO2 hW0 hx hl hR hn hds hDL hn6
  go_enter Tryz.func36, Tryz.ntmps36
  go_upto_region 1 with (fail)
  rw [← HW0.out]
  go_wp2_with fail
  refine HKO.out.mono ?_
  rintro e w2 ⟨v, rfl, hb2, hrow⟩
  have M4 : Hid (Blk w2 w.heap.size 75 zeroA6) := HF2.out.below hb2 HF2.out.lt
  have MW : Hid (Below w.heap.size w w2) := HF3.out.trans (hb2.mono HF3.out.size)
  obtain ⟨A3, c3, rfl⟩ := hrow.form
  have HROW := Lib.hid hrow
  clear hb2 HKO HF2 HF3 hrow
  have z0 := M4.out.cell 0
  have z1 := M4.out.cell 1
  have z2 := M4.out.cell 2
  have z3 := M4.out.cell 3
  have z4 := M4.out.cell 4
  have z5 := M4.out.cell 5
  have k0 := M4.out.frozen 0
  have k1 := M4.out.frozen 1
  have k2 := M4.out.frozen 2
  have k3 := M4.out.frozen 3
  have k4 := M4.out.frozen 4
  have k5 := M4.out.frozen 5
  simp at z0 z1 z2 z3 z4 z5
  have hlt := M4.out.lt
  obtain ⟨N, hN⟩ : ∃ N, N = ds.length := ⟨_, rfl⟩
  rw [← hN] at HROW HO HN6 ⊢
  have HNN := Lib.hid hN
  have hN6 : N ≤ 600 := HN6.out
  clear hN
  go_wp2_with fail
  go_loop [9] (fun v9 => ∃ r : Nat, r ≤ N ∧ v9 = .int .i64 ((r : Int) - 1) ∧ Hid (downF nm at_ ds r = O)) (fun v9 => (intOf v9 + 1).toNat)
  case atStart => exact ⟨N, Nat.le_refl _, rfl, HO.out.symm⟩
  case round =>
    obtain ⟨r, hr, rfl, hdn⟩ := hrel
    cases r with
    | zero =>
      have HNO : Hid (O = none) := hdn.out.symm
      clear hdn
      go_wp2_with fail
      try simp only [Exit.inBlock, Exit.then]
      refine bodyPost_ret (v := .tuple #[zeroM, .bool false]) ?_ rfl ⟨?_, ?_⟩
      · rw [results_cell_tmp rfl]
        unfold zeroM zeroA6
        go_simp
      · refine MW.out.trans ?_
        exact (((((((Below.refl w.heap.size w2).setCell (by simp) _).setCell (by simp) _).setCell (by simp) _).setCell (by simp) _).setCell (by simp) _).setCell (by simp) _)
      · rw [HNO.out]
        rfl
    | succ q =>
      have hqd : q < ds.length := by rw [← HNN.out]; omega
      obtain ⟨g, v, rfl, hg2, e0, e1, e2, e3, e4, e5, hpar⟩ := HROW.out.at_ HNN.out q hqd
      have hst := downF_step nm at_ ds q hqd
      rw [hdn.out] at hst
      generalize ds[q] = e at *
      obtain ⟨ei, en, ep, ef, eb, eg⟩ := e
      dsimp only at e0 e1 e2 e3 e4 e5 hpar hst
      obtain ⟨bd, hbd⟩ : ∃ bd, bd = bodyB ⟨en, ep, ef, eb, eg⟩ := ⟨_, rfl⟩
      rw [← hbd] at e4
      have HBD := Lib.hid hbd
      obtain ⟨A5, c5, rfl⟩ := own_len hpar
      have HPAR := Lib.hid hpar
      have HST := Lib.hid hst
      have e9 : (((q + 1 : Nat) : Int) - 1) = (q : Int) := by omega
      rw [e9]
      have q0 : 0 ≤ (q : Int) := by omega
      have q1 : (q : Int) < (N : Int) := by omega
      have hqN : q < N := by omega
      clear hst hqd hdn e9 hbd hpar
      by_cases hca : (ei : Int) < at_
      · by_cases hcn : en = nm
        · subst hcn
          cases eg with
          | true =>
            have HNO : Hid (O = none) := by unfold Hid; rw [HST.out, if_pos ⟨rfl, hca⟩, if_pos rfl]
            clear HST
            go_wp2_with fail
            try simp only [Exit.inBlock, Exit.then]
            refine bodyPost_ret (v := .tuple #[zeroM, .bool false]) ?_ rfl ⟨?_, ?_⟩
            · rw [results_cell_tmp rfl]
              unfold zeroM zeroA6
              go_simp
            · refine MW.out.trans ?_
              exact (((((((Below.refl w.heap.size w2).setCell (by simp) _).setCell (by simp) _).setCell (by simp) _).setCell (by simp) _).setCell (by simp) _).setCell (by simp) _)
            · rw [HNO.out]
              rfl
          | false =>
            have HNO : Hid (O = some (ei, ⟨en, ep, ef, eb, false⟩)) := by unfold Hid; rw [HST.out, if_pos ⟨rfl, hca⟩, if_neg (by decide)]
            clear HST
            go_wp2_with fail
            try simp only [Exit.inBlock, Exit.then]
            refine bodyPost_ret (v := .tuple #[.agg #[.string en, .int .i64 (ei : Nat), .slice A5 ep.length c5, .bool ef, .string bd, .bool false], .bool true]) ?_ rfl ⟨?_, ?_⟩
            · rw [results_cell_tmp rfl]
              go_simp
            · refine MW.out.trans ?_
              exact (((((((Below.refl w.heap.size w2).setCell (by simp) _).setCell (by simp) _).setCell (by simp) _).setCell (by simp) _).setCell (by simp) _).setCell (by simp) _)
            · have ne : ∀ q, (Value.slice A5 ep.length c5).ownBlock = some q → q ≠ w.heap.size := fun q e h => by
                subst h
                obtain ⟨cur, hcur⟩ := own_typeL HPAR.out e
                have h2 : w2.heap[w.heap.size]? = _ := M4.out
                rw [hcur] at h2
                injection h2 with h2
                injection h2 with _ h2
                exact absurd h2 (by decide)
              rw [HNO.out]
              exact ⟨A5, ep.length, c5, by rw [HBD.out], own_set (own_set (own_set (own_set (own_set (own_set HPAR.out ne) ne) ne) ne) ne) ne⟩
        · have v2 : (en.toList == nm.toList) = false := by
            rw [beq_eq_false_iff_ne, Lib.toList_data, Lib.toList_data]
            exact fun e => hcn (ByteArray.ext (Array.toList_inj.1 e))
          have HS : Hid (downF nm at_ ds q = O) := by unfold Hid; rw [HST.out, if_neg (fun h => hcn h.1)]
          clear HST hcn
          go_wp2_with fail
          go_round
          case rel => exact ⟨q, by omega, rfl, HS.out⟩
          case measure => simp [intOf]
      · have HS : Hid (downF nm at_ ds q = O) := by unfold Hid; rw [HST.out, if_neg (fun h => hca h.2)]
        clear HST
        go_wp2_with fail
        go_round
        case rel => exact ⟨q, by omega, rfl, HS.out⟩
        case measure => simp [intOf]

end Go.Proofs.YtjdpkhjoecfhlaaGreatDoor

namespace Go.Proofs.YtjdpkhjoecfhlaaGreatDoor
open Go.RowKit Go.Maps Go.Shelf

set_option maxHeartbeats 1000000 in
set_option maxRecDepth 100000 in
theorem macroFinds_any (n0 : Nat) (A : Option Addr) (c : Nat) (l : List Tz) (nm : ByteArray) (at_ : Int) (w : World) (hG : LexG n0 w) (hl : l.length ≤ 140737488355328) (hx : ∀ t ∈ l, t.x.size ≤ 140737488355328) (hlc : l.length ≤ c) (hR : ZRd w w.heap.size A l) (ha1 : -9223372036854775808 ≤ at_) (ha2 : at_ ≤ 9223372036854775807) :
    Calls Tryz.prog 7 #[.slice A l.length c, .string nm, .int .i64 at_] w fun e w' => e = .returned (.bool true) ∧ Below w.heap.size w w' := by
  have HV := heavy_any A c l w hx hl hR
  have HAW : Hid (∀ W, Below w.heap.size w W → Calls Tryz.prog 31 #[] W fun e w' => e = .returned (.bool true) ∧ Below W.heap.size W w') := fun W hW => awake_any n0 W (hG.below hW)
  obtain ⟨hb, hhb⟩ : ∃ hb, hb = !(decide (l.length ≤ 600) && decide (sumX l ≤ 20000)) := ⟨_, rfl⟩
  rw [← hhb] at HV
  have HHB := Lib.hid hhb
  have HHV := Lib.hid HV
  clear hhb HV
  cases hb with
  | true =>
    have HB4 : Hid (Below w.heap.size w w) := Below.refl _ _
    obtain ⟨n, hn⟩ : ∃ n, n = l.length := ⟨_, rfl⟩
    rw [← hn] at HHV ⊢
    clear hG hx hlc hR hl ha1 ha2 HHB hn
    go_enter Tryz.func7, Tryz.ntmps7
    go_wp2_with fail
    refine HHV.out.mono ?_
    rintro e w1 ⟨rfl, rfl⟩
    go_wp2_with fail
    refine (HAW.out _ HB4.out).mono ?_
    rintro e w5 ⟨rfl, hb7⟩
    have HB7 := Lib.hid (HB4.out.trans (hb7.mono HB4.out.size))
    clear hb7
    go_wp2_with fail
    go_ret
    exact ⟨rfl, HB7.out⟩
  | false =>
    have h6 : l.length ≤ 600 ∧ sumX l ≤ 20000 := by have := HHB.out; simpa using this
    have hxs : ∀ t ∈ l, t.x.size ≤ 20001 := fun t ht => by have := sumX_mem l t ht; omega
    have HF1 : Hid (∀ W, Below w.heap.size w W → Calls Tryz.prog 35 #[.slice A l.length c, .string nm, .int .i64 at_] W fun e w' => Below W.heap.size W w' ∧ FindM W.heap.size (findK nm l (max 0 (min at_ l.length)).toNat) e w') := fun W hW => Find_any n0 A c l nm at_ W (hG.below hW) h6.1 hxs hlc ((hR.below hW).up hW.size) ha1 ha2
    have HF2 : Hid (∀ W, Below w.heap.size w W → Calls Tryz.prog 36 #[.slice A l.length c, .string nm, .int .i64 at_] W fun e w' => Below W.heap.size W w' ∧ FindM 0 (findK nm l (max 0 (min at_ l.length)).toNat) e w') := fun W hW => refFind_any A c l nm at_ W h6.1 hxs ((hR.below hW).up hW.size)
    have HD1 : Hid (∀ W, Below w.heap.size w W → Calls Tryz.prog 32 #[.slice A l.length c] W fun e w' => ∃ v, e = .returned v ∧ Below W.heap.size W w' ∧ DefRow w' W.heap.size 74 v (defsF 0 l)) := fun W hW => defs_any n0 A c l W (hG.below hW) h6.1 hxs ((hR.below hW).up hW.size)
    have HD2 : Hid (∀ W, Below w.heap.size w W → Calls Tryz.prog 33 #[.slice A l.length c] W fun e w' => ∃ v, e = .returned v ∧ Below W.heap.size W w' ∧ DefRow w' W.heap.size 75 v (defsF 0 l)) := fun W hW => refDefs_any A c l W h6.1 hxs ((hR.below hW).up hW.size)
    have HDL : Hid ((defsF 0 l).length ≤ 600) := by have := defsF_len 0 l; unfold Hid; omega
    have HPS : Hid (∀ i d, (i, d) ∈ defsF 0 l → d.ps.length ≤ 1000000) := fun i d h => by
      obtain ⟨j, hj, _, h2⟩ := (mem_defs l 0 i d).1 h
      exact dfn_len _ _ d (hxs _ (List.getElem_mem hj)) h2
    obtain ⟨O, hO⟩ : ∃ O, O = findK nm l (max 0 (min at_ (l.length : Int))).toNat := ⟨_, rfl⟩
    rw [← hO] at HF1 HF2
    have HOM : Hid (∀ i d, O = some (i, d) → d.ps.length ≤ 1000000) := fun i d h => by
      rw [hO] at h
      unfold findK at h
      rw [Option.filter_eq_some_iff] at h
      exact HPS.out i d (findAny_some nm l _ i d h.1).1
    obtain ⟨ds, hds⟩ : ∃ ds, ds = defsF 0 l := ⟨_, rfl⟩
    rw [← hds] at HD1 HD2 HDL HPS
    obtain ⟨n, hn⟩ : ∃ n, n = l.length := ⟨_, rfl⟩
    rw [← hn] at HHV HF1 HF2 HD1 HD2 ⊢
    clear hO hds hn hG hl hx hlc hR ha1 ha2 h6 hxs HHB
    go_enter Tryz.func7, Tryz.ntmps7
    go_wp2_with fail
    refine HHV.out.mono ?_
    rintro e w1 ⟨rfl, rfl⟩
    go_wp2_with fail
    refine (HD1.out _ (Below.refl _ _)).mono ?_
    rintro e w2 ⟨v, rfl, hb2, hrow2⟩
    obtain ⟨A3, c3, rfl⟩ := hrow2.form
    have HB2 := Lib.hid hb2
    have HROW2 := Lib.hid hrow2
    clear hb2 hrow2
    go_wp2_with fail
    refine (HD2.out _ HB2.out).mono ?_
    rintro e w3 ⟨v, rfl, hb3, hrow3⟩
    obtain ⟨A4, c4, rfl⟩ := hrow3.form
    have HB3 := Lib.hid (HB2.out.trans (hb3.mono HB2.out.size))
    have HROW3 := Lib.hid hrow3
    have HROW4 := Lib.hid (HROW2.out.below hb3)
    have HSZ2 := Lib.hid HB2.out.size
    clear hb3 hrow3 HROW2 HD1 HD2 HHV
    obtain ⟨N, hN⟩ : ∃ N, N = ds.length := ⟨_, rfl⟩
    rw [← hN] at HROW3 HROW4 HDL ⊢
    have HNN := Lib.hid hN
    have hN6 : N ≤ 600 := HDL.out
    clear hN
    go_wp2_with fail
    go_loopw [9] (fun v9 wr => ∃ k : Nat, k ≤ N ∧ v9 = .int .i64 k ∧ Hid (DefRow wr w1.heap.size 74 (.slice A3 N c3) ds) ∧ Hid (DefRow wr w2.heap.size 75 (.slice A4 N c4) ds) ∧ Hid (Below w1.heap.size w1 wr)) (fun v9 _ => N - (intOf v9).toNat)
    case atStart => exact ⟨0, Nat.zero_le _, rfl, HROW4.out, HROW3.out, HB3.out⟩
    case round =>
      clear HROW3 HROW4 HB2 HB3
      obtain ⟨k, hk, rfl, hR1, hR2, hB⟩ := hrel
      by_cases hlt : k < N
      · have hkd : k < ds.length := by rw [← HNN.out]; exact hlt
        obtain ⟨g, v, rfl, hg2, e0, e1, e2, e3, e4, e5, hp1⟩ := hR1.out.at_ HNN.out k hkd
        obtain ⟨g', v', rfl, hg2', d0, d1, d2, d3, d4, d5, hp2⟩ := hR2.out.at_ HNN.out k hkd
        obtain ⟨A5, c5, rfl⟩ := own_len hp1
        obtain ⟨A6, c6, rfl⟩ := own_len hp2
        have hps := HPS.out ds[k].1 ds[k].2 (List.getElem_mem hkd)
        generalize ds[k] = e at *
        obtain ⟨ei, en, ep, ef, eb, eg⟩ := e
        dsimp only at e0 e1 e2 e3 e4 e5 d0 d1 d2 d3 d4 d5 hp1 hp2 hps
        obtain ⟨bd, hbd⟩ : ∃ bd, bd = bodyB ⟨en, ep, ef, eb, eg⟩ := ⟨_, rfl⟩
        rw [← hbd] at e4 d4
        have HEQ : Hid (∀ W, Below wr.heap.size wr W → Calls Tryz.prog 34 #[.agg #[.string en, .int .i64 (ei : Nat), .slice A5 ep.length c5, .bool ef, .string bd, .bool eg], .agg #[.string en, .int .i64 (ei : Nat), .slice A6 ep.length c6, .bool ef, .string bd, .bool eg]] W fun e w' => e = .returned (.bool true) ∧ Below W.heap.size W w') := fun W hW => eqDef_same en bd ei ef eg A5 A6 c5 c6 ep W hps (((Rd.of_own hp1).below hW).more hW.size) (((Rd.of_own hp2).below hW).more hW.size)
        have hltI : (k : Int) < (N : Int) := by omega
        clear hbd hp1 hp2 hps hkd
        go_wp2_with fail
        go_still_tail 8, (by kernel_rfl)
        have HWD : Hid (Below wr.heap.size wr wr.drew) := (Below.refl _ _).drew
        change wpList _ _ _ _ _ wr.drew
        generalize wr.drew = wd at *
        go_wp2_with fail
        refine (HEQ.out _ HWD.out).mono ?_
        rintro e w5 ⟨rfl, hb5⟩
        have HB5 := Lib.hid (HWD.out.trans (hb5.mono HWD.out.size))
        clear hb5
        go_wp2_with fail
        go_roundw
        case rel => exact ⟨k + 1, by omega, by go_num, hR1.out.below HB5.out, hR2.out.below HB5.out, hB.out.trans (HB5.out.mono hB.out.size)⟩
        case measure => simp [intOf]; omega
      · obtain rfl : k = N := by omega
        have hltI : ¬ (k : Int) < (k : Int) := by omega
        clear hlt
        go_wp2_with fail
        refine (HF1.out _ hB.out).mono ?_
        rintro e w6 ⟨hb6, hr6⟩
        have HB6 := Lib.hid (hB.out.trans (hb6.mono hB.out.size))
        clear hb6 hR1 hR2
        cases O with
        | none =>
          have he : e = .returned (.tuple #[zeroM, .bool false]) := hr6
          subst he
          clear hr6
          unfold zeroM
          have HB6' := Lib.hid (HB6.out.alloc HB6.out.size (.cells zeroA6 74))
          go_wp2_with fail
          refine (HF2.out _ HB6'.out).mono ?_
          rintro e w7 ⟨hb7, hr7⟩
          have he : e = .returned (.tuple #[zeroM, .bool false]) := hr7
          subst he
          clear hr7
          unfold zeroM
          have K1 := (Blk.new w6 74 zeroA6).below hb7 (Blk.new w6 _ _).lt
          have z0 := K1.cell 0
          have z1 := K1.cell 1
          have z2 := K1.cell 2
          have z3 := K1.cell 3
          have z4 := K1.cell 4
          have z5 := K1.cell 5
          simp at z0 z1 z2 z3 z4 z5
          have HB7 := Lib.hid (HB6'.out.trans (hb7.mono HB6'.out.size))
          have hlt1 : w6.heap.size < w7.heap.size := K1.lt
          clear hb7 K1
          go_wp2_with fail
          refine (eqDef_same ⟨#[]⟩ ⟨#[]⟩ 0 false false none none 0 0 [] _ (by simp) Rd.nil Rd.nil).mono ?_
          rintro e w8 ⟨rfl, hb8⟩
          have HB8 := Lib.hid (HB7.out.trans (((Below.refl w7.heap.size w7).alloc (Nat.le_refl _) (.cells zeroA6 75)).trans (hb8.mono (by simp)) |>.mono HB7.out.size))
          clear hb8
          go_wp2_with fail
          refine (HAW.out _ HB8.out).mono ?_
          rintro e w9 ⟨rfl, hb9⟩
          have HB9 := Lib.hid (HB8.out.trans (hb9.mono HB8.out.size))
          clear hb9
          go_wp2_with fail
          go_ret
          exact ⟨rfl, HB9.out⟩
        | some q =>
          obtain ⟨i, d⟩ := q
          have hps := HOM.out i d rfl
          obtain ⟨A5, n5, ca5, rfl, hO5⟩ := hr6
          obtain ⟨A5', ca5', h5⟩ := own_len hO5
          injection h5 with h5a h5b h5c
          subst h5b
          obtain ⟨dnm, dps, dfn, dbw, dgn⟩ := d
          simp only at hO5 hps
          have HO := Lib.hid (Rd.of_own hO5)
          obtain ⟨bd, hbd⟩ : ∃ bd, bd = bodyB ⟨dnm, dps, dfn, dbw, dgn⟩ := ⟨_, rfl⟩
          dsimp only
          rw [← hbd]
          have HBD := Lib.hid hbd
          have HPS2 := Lib.hid hps
          have HB6' := Lib.hid (HB6.out.alloc HB6.out.size (.cells #[.string dnm, .int .i64 (i : Nat), .slice A5 dps.length ca5, .bool dfn, .string bd, .bool dgn] 74))
          clear hO5 hbd hps h5a h5c
          go_wp2_with fail
          refine (HF2.out _ HB6'.out).mono ?_
          rintro e w7 ⟨hb7, hr7⟩
          obtain ⟨A6, n6, ca6, rfl, hO6⟩ := hr7
          obtain ⟨A6', ca6', h6⟩ := own_len hO6
          injection h6 with h6a h6b h6c
          subst h6b
          simp only at hO6
          dsimp only
          rw [← HBD.out]
          have HO6 := Lib.hid (Rd.of_own hO6)
          have K1 := (Blk.new w6 74 #[.string dnm, .int .i64 (i : Nat), .slice A5 dps.length ca5, .bool dfn, .string bd, .bool dgn]).below hb7 (Blk.new w6 _ _).lt
          have z0 := K1.cell 0
          have z1 := K1.cell 1
          have z2 := K1.cell 2
          have z3 := K1.cell 3
          have z4 := K1.cell 4
          have z5 := K1.cell 5
          simp at z0 z1 z2 z3 z4 z5
          have hbb := (((Below.refl w6.heap.size w6).alloc (Nat.le_refl _) (.cells #[.string dnm, .int .i64 (i : Nat), .slice A5 dps.length ca5, .bool dfn, .string bd, .bool dgn] 74)).trans (hb7.mono (by simp)))
          have HB7 := Lib.hid (HB6'.out.trans (hb7.mono HB6'.out.size))
          have HO5 := Lib.hid ((HO.out.below hbb).more hbb.size)
          have hlt1 : w6.heap.size < w7.heap.size := K1.lt
          clear hb7 K1 hO6 hbb h6a h6c
          go_wp2_with fail
          refine (eqDef_same dnm bd (i : Nat) dfn dgn A5 A6 ca5 ca6 dps _ HPS2.out ((HO5.out.below ((Below.refl _ _).alloc (Nat.le_refl _) _)).more (by simp)) ((HO6.out.below ((Below.refl _ _).alloc (Nat.le_refl _) _)).more (by simp))).mono ?_
          rintro e w8 ⟨rfl, hb8⟩
          have HB8 := Lib.hid (HB7.out.trans (((Below.refl w7.heap.size w7).alloc (Nat.le_refl _) (.cells #[.string dnm, .int .i64 (i : Nat), .slice A6 dps.length ca6, .bool dfn, .string bd, .bool dgn] 75)).trans (hb8.mono (by simp)) |>.mono HB7.out.size))
          clear hb8
          go_wp2_with fail
          refine (HAW.out _ HB8.out).mono ?_
          rintro e w9 ⟨rfl, hb9⟩
          have HB9 := Lib.hid (HB8.out.trans (hb9.mono HB8.out.size))
          clear hb9
          go_wp2_with fail
          go_ret
          exact ⟨rfl, HB9.out⟩

end Go.Proofs.YtjdpkhjoecfhlaaGreatDoor
