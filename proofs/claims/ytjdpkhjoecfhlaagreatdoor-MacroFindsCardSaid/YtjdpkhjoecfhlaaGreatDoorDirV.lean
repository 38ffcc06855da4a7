/- Cond: the document's Words. -/
import Derived.Test.YtjdpkhjoecfhlaaGreatDoorDirN
import Derived.Test.YtjdpkhjoecfhlaaGreatDoorDirW
import Derived.Test.YtjdpkhjoecfhlaaGreatDoorLexAll
import Derived.Maps.AppendAt
namespace Go.Proofs.YtjdpkhjoecfhlaaGreatDoor
open Go.RowKit Go.Maps Go.Shelf

theorem infoTkV : (Tryz.prog.info? 29).map (fun i => (i.zero, i.size, i.bytes)) = some (some (.agg #[.int .i64 0, .string ⟨#[]⟩, .string ⟨#[]⟩, .int .i64 0]), 4, 48) := by kernel_rfl

theorem row_kept {w w' : World} {g : Nat} {row : Option Nat} {R : List Tk} (hR : TRd w (g + 1) (some ⟨g, 0, none⟩) R) (hg : w.grownBy w' row) (hne : row ≠ some g) : TRd w' (g + 1) (some ⟨g, 0, none⟩) R := fun hl => by
  obtain ⟨b0, off, e0, h1, h2⟩ := hR hl
  simp only [Option.some.injEq, Addr.mk.injEq, and_true] at e0
  obtain ⟨rfl, rfl⟩ := e0
  exact ⟨g, 0, rfl, h1, fun j u hu => hg.cell (h2 j u hu) (fun e => hne e.symm)⟩

set_option maxHeartbeats 8000000 in
set_option maxRecDepth 100000 in
/-- a directive's words, the document's -/
theorem refWords_ok (a : Int) (b x : ByteArray) (w : World) (hx : x.size ≤ 20001) (hd : x.data.toList.head? = some 35) :
    Calls Tryz.prog 11 #[.agg #[.int .i64 7, .string b, .string x, .int .i64 a]] w fun e w' => ∃ v, e = .returned (.tuple #[v, .int .i64 0]) ∧ w'.ownsRow w.heap.size 29 4 v (wordsL x).length (cellsT (wordsL x)) ∧ Below w.heap.size w w' := by
  obtain ⟨i0, hi, hz0, hz1, hz2⟩ := info_parts infoTkV
  obtain ⟨L, hL⟩ : ∃ L, L = x.extract 1 x.size := ⟨_, rfl⟩
  have hLl : L.data.toList = x.data.toList.drop 1 := by rw [hL, Lib.extract_to_end]
  have hxl : x.data.toList.length = x.size := by simp
  have hx0 : 0 < x.size := by
    rw [← hxl]
    cases e : x.data.toList with
    | nil => rw [e] at hd; cases hd
    | cons c m => simp
  have hLs : L.size ≤ 20000 := by
    have h1 : L.data.toList.length = L.size := by simp
    rw [hLl, List.length_drop, hxl] at h1
    omega
  have hW : wordsL x = wFrom L.data.toList 0 := by rw [words_from, hLl]
  rw [hW]
  have hx00 : x[0] = 35 := by
    have := Lib.data_getElem? x 0 hx0
    rw [← List.head?_eq_getElem?, hd] at this
    exact (Option.some.inj this).symm
  have q0 : (0 : Int) < (x.size : Int) := by omega
  have q2 : x.toList.isEmpty = false := by
    rw [Lib.toList_data]
    cases e : x.data.toList with
    | nil => rw [e] at hd; cases hd
    | cons c m => rfl
  have q3 : (1 : Int) ≤ (x.size : Int) := by omega
  clear hLl hW hd hxl
  have HLS := Lib.hid hLs
  have HX := Lib.hid hx
  clear hLs hx
  go_enter Tryz.func11, Tryz.ntmps11
  go_wp2_with fail
  rw [← hL]
  clear q0 q2 q3 hx00 hx0 hL HX
  have HB0 := Lib.hid ((Below.refl w.heap.size w).alloc (Nat.le_refl _) (.cells #[.int .i64 7, .string b, .string x, .int .i64 a] 29))
  go_loopw [5, 6] (fun v5 v6 wr => ∃ (acc : List Tk) (p : Nat), v6 = .int .i64 p ∧ p ≤ L.size ∧ Hid (wr.ownsRow w.heap.size 29 4 v5 acc.length (cellsT acc)) ∧ Hid (acc ++ wFrom L.data.toList p = wFrom L.data.toList 0) ∧ Hid (Below w.heap.size w wr) ∧ Hid (∃ A c, v5 = .slice A acc.length c)) (fun _ v6 _ => L.size - (intOf v6).toNat)
  case atStart => exact ⟨[], 0, rfl, Nat.zero_le _, World.ownsRow_nil _ _ _ _, rfl, HB0.out, ⟨none, 0, rfl⟩⟩
  case round =>
    clear HB0
    obtain ⟨acc, p, rfl, hp, hO, hW, hB, hform⟩ := hrel
    obtain ⟨A, c, rfl⟩ := hform.out
    have hLs := HLS.out
    have q1 : (p : Int) ≤ (L.size : Int) := by omega
    clear hLs hform
    have hbnd : ¬ 9223372036854775807 < 1 + (L.size - p) := by have := HLS.out; omega
    obtain ⟨hs1, hs2, hs3⟩ := semi_scan L p hp HLS.out
    have SC := fun W => refScan_any ((⟨#[59]⟩ : ByteArray) ++ L.extract p L.size) W (by omega)
    simp only [hs2, hs3, show ((0 : Nat) : Int) = 0 from rfl, List.length_cons, List.length_map] at SC
    have hrl := row_len L p
    have hra := row_a L p
    have hAll := from_all L.data.toList p
    have hFirst := fun j hj => from_first L.data.toList p j (by rw [show L.data.toList.length = L.size by simp]; exact hp) hj
    generalize hT : row0 L.data.toList p = T at *
    have hal : acc.length ≤ 20001 := by
      have h := congrArg List.length hW.out
      rw [List.length_append] at h
      have h1 := dir_len _ 0 L.data.toList (Nat.lt_succ_self _)
      have h2 : (wFrom L.data.toList 0).length ≤ (dirR 0 L.data.toList).length := List.length_filter_le _ _
      have h3 : L.data.toList.length = L.size := by simp
      have := HLS.out
      omega
    have HAL := Lib.hid hal
    have HSC := Lib.hid SC
    have HRL := Lib.hid hrl
    have HRA := Lib.hid hra
    have HALL := Lib.hid hAll
    have HFI := Lib.hid hFirst
    clear hal SC hrl hra hAll hFirst hs1 hs2 hs3 hT
    go_wp2_with fail
    refine (HSC.out _).mono ?_
    rintro e w2 ⟨v, rfl, hO2, hb2⟩
    obtain ⟨g, cap, rfl, hgb, hglt⟩ := hO2.form (by omega)
    have HR2 : Hid (TRd w2 (g + 1) (some ⟨g, 0, none⟩) (⟨6, ⟨#[]⟩, ⟨#[59]⟩, 0⟩ :: T.map (sh 1))) := fun hl => by
      obtain ⟨b0, off, e0, _, h2⟩ := Rd.of_own hO2 hl
      simp only [Option.some.injEq, Addr.mk.injEq, and_true] at e0
      obtain ⟨rfl, rfl⟩ := e0
      exact ⟨g, 0, rfl, by omega, h2⟩
    have HO2 := Lib.hid (own_belowD hO.out hb2)
    have hne : (Value.slice A acc.length c).ownBlock ≠ some g := fun e => by have := (hO.out.lt g e).2; omega
    have HNE := Lib.hid hne
    have HB2 := Lib.hid (hB.out.trans (hb2.mono hB.out.size))
    have HGL := Lib.hid hglt
    have HGW := Lib.hid (Nat.le_trans hB.out.size hgb)
    clear hO hO2 hb2 hgb hglt hne hB hbnd HSC
    go_wp2_with fail
    go_loopw [5, 6, 9, 10] (fun v5 v6 v9 v10 wr => ∃ (O : List Tk) (j pp : Nat) (again : Bool), v6 = .int .i64 pp ∧ v9 = .bool again ∧ v10 = .int .i64 ((j : Int) + 1) ∧ j ≤ T.length ∧ Hid (wr.ownsRow w.heap.size 29 4 v5 O.length (cellsT O)) ∧ Hid (O.length ≤ acc.length + j) ∧
      Hid (TRd wr (g + 1) (some ⟨g, 0, none⟩) (⟨6, ⟨#[]⟩, ⟨#[59]⟩, 0⟩ :: T.map (sh 1))) ∧ Hid (v5.ownBlock ≠ some g ∧ ∃ A c, v5 = .slice A O.length c) ∧ Hid (Below w.heap.size w wr) ∧ Hid (g < wr.heap.size) ∧
      Hid ((again = false ∧ pp = p ∧ O = acc ++ ((T.take j).filter nz).map (sh p) ∧ ∀ t ∈ T.take j, t.k ≠ 7) ∨
        (again = true ∧ ∃ (jj : Nat) (h : jj < T.length), j = jj + 1 ∧ T[jj].k = 7 ∧ (∀ t ∈ T.take jj, t.k ≠ 7) ∧ pp = T[jj].a + p + 1 ∧ O = acc ++ ((T.take jj).filter nz).map (sh p) ++ [⟨6, T[jj].b, ⟨#[35]⟩, T[jj].a + p⟩]))) (fun _ _ _ v10 _ => T.length + 2 - (intOf v10).toNat)
    case atStart => exact ⟨acc, 0, p, false, rfl, rfl, rfl, Nat.zero_le _, HO2.out, Nat.le_add_right _ _, HR2.out, ⟨HNE.out, A, c, rfl⟩, HB2.out, HGL.out, .inl ⟨rfl, rfl, by simp, by simp⟩⟩
    case round =>
      clear HO2 HR2 HNE HB2 HGL
      obtain ⟨wz, rfl⟩ : ∃ wz : World, wz = wr := ⟨_, rfl⟩
      obtain ⟨O, j, pp, again, rfl, rfl, rfl, hj, hO, hOl, hR, hne, hB, hgl, hst⟩ := hrel
      obtain ⟨A2, c2, rfl⟩ := hne.out.2
      rcases hst.out with ⟨rfl, rfl, hOe, hno⟩ | ⟨rfl, jj, hjj, hj1, h7, hno, rfl, hOe⟩
      · by_cases hlt : j < T.length
        · have hr := hR.out.at_ (j + 1) (by rw [List.length_cons, List.length_map]; omega)
          obtain ⟨b0, off, e0, _, c0, c1, c2', c3⟩ := hr
          simp only [Option.some.injEq, Addr.mk.injEq, and_true] at e0
          obtain ⟨rfl, rfl⟩ := e0
          simp only [List.getElem_cons_succ, List.getElem_map, Nat.zero_add] at c0 c1 c2' c3
          have hta := (HRA.out T[j] (List.getElem_mem hlt)).2
          have hFI := HFI.out j hlt
          have htk := List.take_succ_eq_append_getElem hlt
          obtain ⟨t, hte⟩ : ∃ t, T[j] = t := ⟨_, rfl⟩
          rw [hte] at c0 c1 c2' c3 hta hFI htk
          obtain ⟨tk, tb, tx, ta⟩ := t
          have HTE := Lib.hid hte
          clear hte
          simp only [sh] at c0 c1 c2' c3 hta hFI htk
          have q2 : (j : Int) + 1 < (T.length : Int) + 1 := by omega
          have q3 : (0 : Int) ≤ (j : Int) + 1 := by omega
          have q4 : (ta : Int) ≤ 20000 := by have := HLS.out; omega
          have q5 : (pp : Int) ≤ 20000 := by have := HLS.out; omega
          have c3' : wz.cell? ⟨g, (j + 1) * 4 + 3, none⟩ = some (.int .i64 ((ta : Int) + 1)) := c3
          have hwr : wrap64 ((j : Int) + 1 + 1) = ((j + 1 : Nat) : Int) + 1 := by have := HRL.out; have := HLS.out; unfold wrap64; omega
          have HWR := Lib.hid hwr
          clear c3 hst hwr
          by_cases hk0 : tk = 0
          · subst hk0
            have HOE := Lib.hid hOe
            have HNO := Lib.hid hno
            have HTK := Lib.hid htk
            clear hOe hno htk hFI
            go_wp2_with fail
            go_roundw
            case rel =>
              refine ⟨O, j + 1, pp, false, rfl, rfl, by rw [HWR.out], by omega, hO.out.alloc _, ?_, ?_, ⟨hne.out.1, A2, c2, rfl⟩, hB.out.alloc hB.out.size _, ?_, .inl ⟨rfl, rfl, ?_, ?_⟩⟩
              · have := hOl.out; unfold Hid; omega
              · exact hR.out.below ((Below.refl _ _).alloc (by have := hgl.out; omega) _)
              · have := hgl.out; unfold Hid; simp; omega
              · rw [HTK.out, List.filter_append, HOE.out]; simp [nz]
              · rw [HTK.out]
                intro t ht
                rcases List.mem_append.1 ht with h | h
                · exact HNO.out t h
                · rw [List.mem_singleton.1 h]; show (0 : Nat) ≠ 7; decide
            case measure => rw [HWR.out]; simp [intOf]; omega
          · by_cases hk7 : tk = 7
            · subst hk7
              have HOE := Lib.hid hOe
              have HNO := Lib.hid hno
              clear hOe hno htk hFI hk0
              have hnw : ∀ j2 u, (#[.int .i64 6, .string tb, .string ⟨#[35]⟩, .int .i64 ((ta : Int) + 1 + pp - 1)] : Array Value).toList[j2]? = some u → ((wz.alloc (.cells #[.int .i64 6, .string tb, .string ⟨#[35]⟩, .int .i64 ((ta : Int) + 1 + pp - 1)] 29)).alloc (.cells #[.int .i64 6, .string tb, .string ⟨#[35]⟩, .int .i64 ((ta : Int) + 1 + pp - 1)] 29)).cell? ((⟨wz.heap.size + 1, 0, none⟩ : Addr).add j2) = some u := by
                have := Blk.news (Blk.new (wz.alloc (.cells #[.int .i64 6, .string tb, .string ⟨#[35]⟩, .int .i64 ((ta : Int) + 1 + pp - 1)] 29)) 29 #[.int .i64 6, .string tb, .string ⟨#[35]⟩, .int .i64 ((ta : Int) + 1 + pp - 1)])
                rw [World.size_alloc] at this
                exact this
              have HNW := Lib.hid hnw
              have HC3 := Lib.hid (Blk.cell (Blk.alloc (Blk.new wz 29 #[.int .i64 6, .string tb, .string ⟨#[35]⟩, .int .i64 ((ta : Int) + 1 + pp - 1)]) (.cells #[.int .i64 6, .string tb, .string ⟨#[35]⟩, .int .i64 ((ta : Int) + 1 + pp - 1)] 29)) 3)
              clear hnw
              have hol := hOl.out
              have hrl := HRL.out
              have hls := HLS.out
              have hal := HAL.out
              have hbs := hB.out.size
              go_wp2_with (at_builtin; refine wpList_append_own_at _ rfl (.tmp 72) (.tmp 74) 22 rfl w.heap.size 29 i0 _ 4 48 Tryz.underlying22 hi hz0 hz1 hz2 rfl (by decide) _ O.length (cellsT O) rfl ((hO.out.alloc _).alloc _) ⟨wz.heap.size + 1, 0, none⟩ 1 1 [Value.int .i64 6, .string tb, .string ⟨#[35]⟩, .int .i64 ((ta : Int) + 1 + pp - 1)] rfl rfl HNW.out (by simp [Value.oneCell']) (by unfold maxLen; omega) (by omega) (by simp; omega) ?_; intro v' w5 hown' hgr _ hat; obtain ⟨g5, cap5, rfl, hgb5, hglt5⟩ := hown'.form (by omega); have h5c : w5.cell? ⟨wz.heap.size, 3, none⟩ = some (.int .i64 ((ta : Int) + 1 + pp - 1)) := hgr.cell HC3.out (fun e => by have := (hO.out.lt _ e.symm).2; simp at this))
              go_roundw
              case rel =>
                have hcl : cellsT O ++ [Value.int .i64 6, .string tb, .string ⟨#[35]⟩, .int .i64 ((ta : Int) + 1 + pp - 1)] = cellsT (O ++ [(⟨6, tb, ⟨#[35]⟩, ta + pp⟩ : Tk)]) := by
                  rw [cellsT_append, show ((ta : Int) + 1 + pp - 1) = ((ta + pp : Nat) : Int) by omega]
                  simp [cellsT, Tk.cells]
                rw [hcl] at hown'
                have hr5 := row_kept (hR.out.below (((Below.refl (g + 1) wz).alloc (by have := hgl.out; omega) (.cells #[.int .i64 6, .string tb, .string ⟨#[35]⟩, .int .i64 ((ta : Int) + 1 + pp - 1)] 29)).alloc (by have := hgl.out; simp; omega) (.cells #[.int .i64 6, .string tb, .string ⟨#[35]⟩, .int .i64 ((ta : Int) + 1 + pp - 1)] 29))) hgr hne.out.1
                have hne5 : (Value.slice (some ⟨g5, 0, none⟩) (O.length + 1) cap5).ownBlock ≠ some g := fun e => by
                  rcases hat with h | h
                  · rw [h] at e; exact hne.out.1 e
                  · rw [h] at e; have := hgl.out; simp at e; omega
                have hgs := hgr.size
                rw [World.size_alloc, World.size_alloc] at hgs
                have hb5 := ((hB.out.alloc hbs (.cells #[.int .i64 6, .string tb, .string ⟨#[35]⟩, .int .i64 ((ta : Int) + 1 + pp - 1)] 29)).alloc (by simp; omega) (.cells #[.int .i64 6, .string tb, .string ⟨#[35]⟩, .int .i64 ((ta : Int) + 1 + pp - 1)] 29)).grown hgr (by simp; omega) (fun k e => (hO.out.lt k e).1)
                refine ⟨O ++ [(⟨6, tb, ⟨#[35]⟩, ta + pp⟩ : Tk)], j + 1, ta + pp + 1, true, by go_num, rfl, by go_num, by omega, by rw [List.length_append]; exact hown', ?_, hr5, ⟨hne5, some ⟨g5, 0, none⟩, cap5, by rw [List.length_append]; rfl⟩, hb5, ?_, .inr ⟨rfl, j, hlt, rfl, ?_, HNO.out, ?_, ?_⟩⟩
                · unfold Hid; rw [List.length_append]; simp; omega
                · have := hgl.out; unfold Hid; omega
                · rw [HTE.out]
                · rw [HTE.out]
                · rw [HTE.out, ← HOE.out]
              case measure => simp [intOf]; omega
            · have p0 : ¬ (tk : Int) = 0 := by omega
              have p7 : ¬ (tk : Int) = 7 := by omega
              have HK0 := Lib.hid hk0
              have HK7 := Lib.hid hk7
              have HOE := Lib.hid hOe
              have HNO := Lib.hid hno
              have HTK := Lib.hid htk
              clear hOe hno htk hFI hk0 hk7
              have hnw : ∀ j2 u, (#[.int .i64 tk, .string tb, .string tx, .int .i64 ((ta : Int) + 1 + pp - 1)] : Array Value).toList[j2]? = some u → ((wz.alloc (.cells #[.int .i64 tk, .string tb, .string tx, .int .i64 ((ta : Int) + 1 + pp - 1)] 29)).alloc (.cells #[.int .i64 tk, .string tb, .string tx, .int .i64 ((ta : Int) + 1 + pp - 1)] 29)).cell? ((⟨wz.heap.size + 1, 0, none⟩ : Addr).add j2) = some u := by
                have := Blk.news (Blk.new (wz.alloc (.cells #[.int .i64 tk, .string tb, .string tx, .int .i64 ((ta : Int) + 1 + pp - 1)] 29)) 29 #[.int .i64 tk, .string tb, .string tx, .int .i64 ((ta : Int) + 1 + pp - 1)])
                rw [World.size_alloc] at this
                exact this
              have HNW := Lib.hid hnw
              clear hnw
              have hol := hOl.out
              have hrl := HRL.out
              have hls := HLS.out
              have hal := HAL.out
              have hbs := hB.out.size
              go_wp2_with (at_builtin; refine wpList_append_own_at _ rfl (.tmp 62) (.tmp 64) 22 rfl w.heap.size 29 i0 _ 4 48 Tryz.underlying22 hi hz0 hz1 hz2 rfl (by decide) _ O.length (cellsT O) rfl ((hO.out.alloc _).alloc _) ⟨wz.heap.size + 1, 0, none⟩ 1 1 [Value.int .i64 tk, .string tb, .string tx, .int .i64 ((ta : Int) + 1 + pp - 1)] rfl rfl HNW.out (by simp [Value.oneCell']) (by unfold maxLen; omega) (by omega) (by simp; omega) ?_; intro v' w5 hown' hgr _ hat; obtain ⟨g5, cap5, rfl, hgb5, hglt5⟩ := hown'.form (by omega); skip)
              go_roundw
              case rel =>
                have hcl : cellsT O ++ [Value.int .i64 tk, .string tb, .string tx, .int .i64 ((ta : Int) + 1 + pp - 1)] = cellsT (O ++ [(⟨tk, tb, tx, ta + pp⟩ : Tk)]) := by
                  rw [cellsT_append, show ((ta : Int) + 1 + pp - 1) = ((ta + pp : Nat) : Int) by omega]
                  simp [cellsT, Tk.cells]
                rw [hcl] at hown'
                have hr5 := row_kept (hR.out.below (((Below.refl (g + 1) wz).alloc (by have := hgl.out; omega) (.cells #[.int .i64 tk, .string tb, .string tx, .int .i64 ((ta : Int) + 1 + pp - 1)] 29)).alloc (by have := hgl.out; simp; omega) (.cells #[.int .i64 tk, .string tb, .string tx, .int .i64 ((ta : Int) + 1 + pp - 1)] 29))) hgr hne.out.1
                have hne5 : (Value.slice (some ⟨g5, 0, none⟩) (O.length + 1) cap5).ownBlock ≠ some g := fun e => by
                  rcases hat with h | h
                  · rw [h] at e; exact hne.out.1 e
                  · rw [h] at e; have := hgl.out; simp at e; omega
                have hgs := hgr.size
                rw [World.size_alloc, World.size_alloc] at hgs
                have hb5 := ((hB.out.alloc hbs (.cells #[.int .i64 tk, .string tb, .string tx, .int .i64 ((ta : Int) + 1 + pp - 1)] 29)).alloc (by simp; omega) (.cells #[.int .i64 tk, .string tb, .string tx, .int .i64 ((ta : Int) + 1 + pp - 1)] 29)).grown hgr (by simp; omega) (fun k e => (hO.out.lt k e).1)
                refine ⟨O ++ [(⟨tk, tb, tx, ta + pp⟩ : Tk)], j + 1, pp, false, rfl, rfl, by go_num, by omega, by rw [List.length_append]; exact hown', ?_, hr5, ⟨hne5, some ⟨g5, 0, none⟩, cap5, by rw [List.length_append]; rfl⟩, hb5, ?_, .inl ⟨rfl, rfl, ?_, ?_⟩⟩
                · unfold Hid; rw [List.length_append]; simp; omega
                · have := hgl.out; unfold Hid; omega
                · have hnz : nz ⟨tk, tb, tx, ta⟩ = true := by simp [nz, HK0.out]
                  rw [HTK.out, List.filter_append, List.filter_cons, if_pos hnz, List.map_append, ← List.append_assoc, ← HOE.out]
                  rfl
                · rw [HTK.out]
                  intro t ht
                  rcases List.mem_append.1 ht with h | h
                  · exact HNO.out t h
                  · rw [List.mem_singleton.1 h]; exact HK7.out
              case measure => simp [intOf]; omega
        · obtain rfl : j = T.length := by omega
          have q2 : ¬ (T.length : Int) + 1 < (T.length : Int) + 1 := by omega
          rw [List.take_length] at hOe hno
          have hE : acc ++ wFrom L.data.toList pp = O := by rw [HALL.out hno, hOe]
          rw [hW.out] at hE
          have HE := Lib.hid hE
          clear hOe hno hE hst
          go_wp2
          go_ret2
          exact ⟨_, rfl, by rw [HE.out]; exact hO.out, hB.out⟩
      · obtain ⟨f1, f2, f3⟩ := HFI.out jj hjj h7 hno
        have hE : O ++ wFrom L.data.toList (T[jj].a + p + 1) = wFrom L.data.toList 0 := by
          have h := hW.out
          rw [f3] at h
          rw [hOe, ← h]
          simp
        have HE := Lib.hid hE
        have HF := Lib.hid (And.intro f1 f2)
        have hlen : L.data.toList.length = L.size := by simp
        have HLN := Lib.hid hlen
        clear hOe hno hE f1 f2 f3 h7 hst hlen hj1
        by_cases hz : (j : Int) + 1 < (T.length : Int) + 1
        all_goals
          go_wp2
          go_roundw
          case rel => exact ⟨O, T[jj].a + p + 1, rfl, by have := HF.out.1; have := HLN.out; omega, hO.out, HE.out, hB.out, ⟨A2, c2, rfl⟩⟩
          case measure => simp [intOf]; have := HF.out; have := HLN.out; omega

end Go.Proofs.YtjdpkhjoecfhlaaGreatDoor
