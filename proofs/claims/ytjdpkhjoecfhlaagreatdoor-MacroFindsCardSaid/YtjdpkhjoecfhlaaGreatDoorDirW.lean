/- Cond: the program's Words. -/
import Derived.Test.YtjdpkhjoecfhlaaGreatDoorDirM
import Derived.Test.YtjdpkhjoecfhlaaGreatDoorLexG
import Derived.Test.YtjdpkhjoecfhlaaGreatDoorShelf
import Derived.BigRegion
import Derived.BigQuiet
import Derived.Deep.Cut
import Derived.Laws.OwnMore
namespace Go.Proofs.YtjdpkhjoecfhlaaGreatDoor
open Go.RowKit Go.Maps Go.Shelf

theorem cut_hash (x : ByteArray) (h : x.data.toList.head? = some 35) : Lib.hasPrefix x.data.toList (⟨#[35]⟩ : ByteArray).data.toList = true ∧ (⟨(Lib.trimPrefix x.data.toList (⟨#[35]⟩ : ByteArray).data.toList).toArray⟩ : ByteArray) = x.extract 1 x.size := by
  have h1 : Lib.hasPrefix x.data.toList (⟨#[35]⟩ : ByteArray).data.toList = true := by
    show ([35] : List UInt8).isPrefixOf x.data.toList = true
    cases e : x.data.toList with
    | nil => rw [e] at h; cases h
    | cons c l =>
      rw [e] at h
      obtain rfl : c = 35 := by simpa using h
      simp [List.isPrefixOf]
  refine ⟨h1, ?_⟩
  unfold Lib.trimPrefix
  rw [if_pos h1]
  apply ByteArray.ext
  apply Array.toList_inj.1
  show (x.data.toList.drop 1).toArray.toList = (x.extract 1 x.size).data.toList
  rw [Lib.extract_to_end]
theorem cut_no (x : ByteArray) (h : ¬ x.data.toList.head? = some 35) : Lib.hasPrefix x.data.toList (⟨#[35]⟩ : ByteArray).data.toList = false ∧ (⟨(Lib.trimPrefix x.data.toList (⟨#[35]⟩ : ByteArray).data.toList).toArray⟩ : ByteArray) = x := by
  have h1 : Lib.hasPrefix x.data.toList (⟨#[35]⟩ : ByteArray).data.toList = false := by
    show ([35] : List UInt8).isPrefixOf x.data.toList = false
    cases e : x.data.toList with
    | nil => rfl
    | cons c l =>
      rw [e] at h
      have : ¬ (35 : UInt8) = c := fun g => h (by rw [g]; rfl)
      simp [List.isPrefixOf, this]
  refine ⟨h1, ?_⟩
  unfold Lib.trimPrefix
  rw [if_neg (by rw [h1]; exact Bool.false_ne_true)]

set_option maxHeartbeats 4000000 in
set_option maxRecDepth 100000 in
/-- no directive -/
theorem words_bad (k a : Int) (b x : ByteArray) (w : World) (h : ¬ (k = 7 ∧ x.data.toList.head? = some 35)) :
    Calls Tryz.prog 10 #[.agg #[.int .i64 k, .string b, .string x, .int .i64 a]] w fun e w' => e = .returned (.tuple #[.slice none 0 0, .int .i64 3]) ∧ Below w.heap.size w w' := by
  have CP := fun W => Tryz.strings_CutPrefix x ⟨#[35]⟩ W
  by_cases hk : k = 7
  · have h2 : ¬ x.data.toList.head? = some 35 := fun g => h ⟨hk, g⟩
    simp only [(cut_no x h2).1, (cut_no x h2).2] at CP
    have HCP := Lib.hid CP
    subst hk
    clear CP h h2
    go_enter Tryz.func10, Tryz.ntmps10
    go_wp2_with fail
    refine (HCP.out _).mono ?_
    rintro e w1 ⟨rfl, rfl⟩
    go_wp2
    go_ret2
    exact ⟨rfl, (Below.refl _ _).alloc (Nat.le_refl _) _⟩
  · have HCP := Lib.hid CP
    clear CP h
    go_enter Tryz.func10, Tryz.ntmps10
    go_wp2_with fail
    refine (HCP.out _).mono ?_
    rintro e w1 ⟨rfl, rfl⟩
    go_wp2
    go_ret2
    exact ⟨rfl, (Below.refl _ _).alloc (Nat.le_refl _) _⟩

theorem room_at (L : ByteArray) (h : L.size ≤ 20000) : L.size + Lib.countB L ⟨#[35]⟩ * (⟨#[64]⟩ : ByteArray).size ≤ 140737488355328 := by
  have h1 := Lib.countB_le ⟨#[35]⟩ (by decide) L.size L (Nat.le_refl _)
  have h2 : (⟨#[64]⟩ : ByteArray).size = 1 := rfl
  rw [h2]
  omega

set_option maxHeartbeats 8000000 in
set_option maxRecDepth 100000 in
/-- a directive's words -/
theorem words_ok (n0 : Nat) (a : Int) (b x : ByteArray) (w : World) (hG : LexG n0 w) (hx : x.size ≤ 20001) (hd : x.data.toList.head? = some 35) :
    Calls Tryz.prog 10 #[.agg #[.int .i64 7, .string b, .string x, .int .i64 a]] w fun e w' => ∃ g cap, e = .returned (.tuple #[.slice (some ⟨g, 0, none⟩) (wordsL x).length cap, .int .i64 0]) ∧ (wordsL x).length ≤ cap ∧ cap ≤ maxLen ∧ w.heap.size ≤ g ∧ TRd w' w'.heap.size (some ⟨g, 0, none⟩) (wordsL x) ∧ Below w.heap.size w w' := by
  have CP := fun W => Tryz.strings_CutPrefix x ⟨#[35]⟩ W
  simp only [(cut_hash x hd).1, (cut_hash x hd).2] at CP
  obtain ⟨L, hL⟩ : ∃ L, L = x.extract 1 x.size := ⟨_, rfl⟩
  rw [← hL] at CP
  have hLl : L.data.toList = x.data.toList.drop 1 := by rw [hL, Lib.extract_to_end]
  have hLs : L.size ≤ 20000 := by
    have h1 : L.data.toList.length = L.size := by simp
    have h2 : x.data.toList.length = x.size := by simp
    rw [hLl, List.length_drop, h2] at h1
    omega
  have hW : wordsL x = (dirR 0 L.data.toList).dropLast := by unfold wordsL; rw [hLl]
  obtain ⟨P, hP0, hP⟩ := laid_dirR L L.size 0 (by omega) (Nat.zero_le _)
  rw [List.drop_zero] at hP
  have hkinds := dir_kinds _ 0 L.data.toList (Nat.lt_succ_self _)
  have hlen := dir_len _ 0 L.data.toList (Nat.lt_succ_self _)
  rw [show L.data.toList.length = L.size by simp] at hlen
  obtain ⟨sc1, sc2⟩ := scan_at L (by omega)
  have RA := fun m W hm => Tryz.strings_ReplaceAll L ⟨#[35]⟩ ⟨#[64]⟩ m W (by omega) hm (by decide) (room_at L hLs)
  have eRA : (⟨(Lib.replaceAll L.data.toList (⟨#[35]⟩ : ByteArray).data.toList (⟨#[64]⟩ : ByteArray).data.toList).toArray⟩ : ByteArray) = atB L := by
    show (⟨(Lib.replaceAll L.data.toList [35] [64]).toArray⟩ : ByteArray) = _
    rw [replaceAll_at]
    rfl
  simp only [eRA] at RA
  have SC := fun W g => scan_any n0 (atB L) W g
  simp only [sc1, sc2, show ((0 : Nat) : Int) = 0 from rfl] at SC
  have hpos := hP.pos
  rw [hW]
  generalize dirR 0 L.data.toList = D at *
  simp only [List.length_map] at SC
  have HCP := Lib.hid CP
  have HRA := Lib.hid RA
  have HSC := Lib.hid SC
  have HP := Lib.hid hP
  have HK := Lib.hid hkinds
  have HLS := Lib.hid hLs
  have HLEN := Lib.hid hlen
  have HP0 := Lib.hid hP0
  have HG := Lib.hid hG
  have HPOS := Lib.hid hpos
  clear CP RA SC hP hkinds hLs hlen hP0 hG hW hx hd hLl hL sc1 sc2 eRA hpos
  go_enter Tryz.func10, Tryz.ntmps10
  go_wp2_with fail
  refine (HCP.out _).mono ?_
  rintro e w1 ⟨rfl, rfl⟩
  go_wp2_with fail
  have hb1 : Below w.heap.size w (w.alloc (.cells #[.int .i64 7, .string b, .string x, .int .i64 a] 29)) := (Below.refl _ _).alloc (Nat.le_refl _) _
  generalize w.alloc (.cells #[.int .i64 7, .string b, .string x, .int .i64 a] 29) = w1 at *
  have HG1 := Lib.hid (HG.out.below hb1)
  obtain ⟨m, hm⟩ := HG1.out.maxV
  refine (HRA.out m _ hm).mono ?_
  rintro e w2 ⟨rfl, hb2⟩
  have hg2 := HG1.out.below hb2
  have HB2 := Lib.hid (hb1.trans (hb2.mono hb1.size))
  have HG2 := Lib.hid hg2
  clear hb1 hb2 hg2 hm HCP HRA HG1
  go_wp2_with fail
  refine (HSC.out _ HG2.out).mono ?_
  rintro e w3 ⟨v, rfl, hO, hb3⟩
  obtain ⟨g, cap, rfl, hgb, hglt⟩ := hO.form HPOS.out
  have HO := Lib.hid hO
  have HB3 := Lib.hid (HB2.out.trans (hb3.mono HB2.out.size))
  have HGB := Lib.hid (Nat.le_trans HB2.out.size hgb)
  clear hO hb3 HSC HG2 HB2
  go_wp2_with fail
  go_loopw [8, 36] (fun v8 v36 wr => ∃ k : Nat, k ≤ D.length ∧ v36 = .int .i64 k ∧ v8 = .int .i64 (P k) ∧ Hid (wr.ownsRow w2.heap.size 29 4 (.slice (some ⟨g, 0, none⟩) D.length cap) D.length (cellsT (mixL D k))) ∧ Hid (Below w.heap.size w wr)) (fun _ v36 _ => D.length - (intOf v36).toNat)
  case atStart => exact ⟨0, Nat.zero_le _, rfl, by rw [HP0.out]; rfl, by rw [mix_zero]; exact HO.out, HB3.out⟩
  case round =>
    clear HO HB3 HP0
    obtain ⟨k, hk, rfl, rfl, hO, hB⟩ := hrel
    by_cases hlt : k < D.length
    · have q1 : (k : Int) < (D.length : Int) := by omega
      have hD := HP.out
      have ha1 := hD.lo k hlt
      obtain ⟨ha2, ha3⟩ := hD.hi k hlt
      obtain ⟨z, hz⟩ := Nat.le.dest ha2
      have hxs : (toAt D[k]).x.size = z := by
        rw [toAt_size, hD.x k hlt, ByteArray.size_extract]
        omega
      have hDb := hD.b k hlt
      have hDx := hD.x k hlt
      rw [← hz] at ha3 hDx
      obtain ⟨m0, m1, m2, m3⟩ := mix_cells D k hlt
      have M0 := Lib.hid m0
      have M1 := Lib.hid m1
      have M2 := Lib.hid m2
      have M3 := Lib.hid m3
      have c0 := (hO.out.cellAt (k * 4) (by omega)).trans m0
      have c1 := (hO.out.cellAt (k * 4 + 1) (by omega)).trans m1
      have c2 := (hO.out.cellAt (k * 4 + 2) (by omega)).trans m2
      have c3 := (hO.out.cellAt (k * 4 + 3) (by omega)).trans m3
      have f0 := hO.out.frozenAt (k * 4)
      have f1 := hO.out.frozenAt (k * 4 + 1)
      have f2 := hO.out.frozenAt (k * 4 + 2)
      have f3 := hO.out.frozenAt (k * 4 + 3)
      have hTn := turn_no D k hlt
      have hTy := turn_yes D k hlt
      have hK6 := (HK.out D[k] (List.getElem_mem hlt)).2.2
      have hP1 := hz
      generalize (toAt D[k]).k = kk at *
      generalize (toAt D[k]).b = kb at *
      generalize (toAt D[k]).x = kx at *
      generalize D[k] = T at *
      obtain ⟨Tk1, Tb, Tx, Ta⟩ := T
      simp only at *
      subst hDb hDx
      have HTN := Lib.hid hTn
      have HTY := Lib.hid hTy
      have HK6 := Lib.hid hK6
      have HP1 := Lib.hid hP1
      have hLs := HLS.out
      have b1 : (0 : Int) ≤ (k : Int) := by omega
      have b2 : (P k : Int) ≤ (Ta : Int) := by omega
      have b3 : (Ta : Int) + (z : Int) ≤ (L.size : Int) := by omega
      have b4 : (L.size : Int) ≤ 20000 := by omega
      have b5 : (kx.size : Int) = (z : Int) := by omega
      clear hD hz ha1 ha2 ha3 hTn hTy hK6 hP1 m0 m1 m2 m3 hLs hxs
      go_wp2_with fail
      go_quiet (fail)
      have hbq : Below wr.heap.size wr (wr.drewN nq) := below_drawn (Below.refl _ _) _
      have HO2 := Lib.hid (own_belowD hO.out hbq)
      have HB2 := Lib.hid (hB.out.trans (hbq.mono hB.out.size))
      clear c0 c1 c2 c3 f0 f1 f2 f3 hO hB hbq
      generalize wr.drewN nq = wq at *
      have c0 := (HO2.out.cellAt (k * 4) (by omega)).trans M0.out
      have c1 := (HO2.out.cellAt (k * 4 + 1) (by omega)).trans M1.out
      have c2 := (HO2.out.cellAt (k * 4 + 2) (by omega)).trans M2.out
      have c3 := (HO2.out.cellAt (k * 4 + 3) (by omega)).trans M3.out
      have f0 := HO2.out.frozenAt (k * 4)
      have f1 := HO2.out.frozenAt (k * 4 + 1)
      have f2 := HO2.out.frozenAt (k * 4 + 2)
      have f3 := HO2.out.frozenAt (k * 4 + 3)
      have hs1 := HO2.out.stored (k * 4 + 1) (.string (L.extract (P k) Ta))
      have hs2 := hs1.1.stored (k * 4 + 2) (.string (L.extract Ta (Ta + z)))
      have HS1 := Lib.hid hs1
      have HS2 := Lib.hid hs2
      clear hs1 hs2
      go_wp2_with fail
      go_region
      have HO5 := Lib.hid (HS2.out.1.drew)
      have HB5 := Lib.hid (((HB2.out.setCell (p := ⟨g, k * 4 + 1, none⟩) HGB.out (.string (L.extract (P k) Ta))).setCell (p := ⟨g, k * 4 + 2, none⟩) HGB.out (.string (L.extract Ta (Ta + z)))).drew)
      clear c0 c1 c2 c3 f0 f1 f2 f3 HS1 HS2 HO2 HB2
      generalize ((wq.setCell ⟨g, k * 4 + 1, none⟩ (.string (L.extract (P k) Ta))).setCell ⟨g, k * 4 + 2, none⟩ (.string (L.extract Ta (Ta + z)))).drew = wd at *
      have c5 : wd.cell? ⟨g, k * 4 + 2, none⟩ = some (.string (L.extract Ta (Ta + z))) := by
        rw [HO5.out.cellAt (k * 4 + 2) (by omega), List.getElem?_set_self (by rw [List.length_set, cellsT_length, mix_len D k (by omega)]; omega)]
      have c6 : wd.cell? ⟨g, k * 4, none⟩ = some (.int .i64 kk) := by
        rw [HO5.out.cellAt (k * 4) (by omega), List.getElem?_set_ne (by omega), List.getElem?_set_ne (by omega)]
        exact M0.out
      have hwr : wrap64 ((k : Int) + 1) = ((k + 1 : Nat) : Int) := by have := HLEN.out; unfold wrap64; omega
      have HWR := Lib.hid hwr
      have f5 := HO5.out.frozenAt (k * 4)
      have HS3 := Lib.hid (HO5.out.stored (k * 4) (.int .i64 6)).1
      generalize L.extract Ta (Ta + z) = X at *
      by_cases h35 : X.data.toList = [35]
      · have hTY := HTY.out (HK6.out h35)
        have HTY2 := Lib.hid hTY
        have e35 : (X.toList == [35]) = true := by rw [Lib.toList_data, h35]; rfl
        have e36 : X = ⟨#[35]⟩ := ByteArray.ext (Array.toList_inj.1 h35)
        clear hTY HTY HTN HK6 h35 hwr
        go_wp2_with fail
        go_roundw
        case rel => exact ⟨k + 1, by omega, by rw [HWR.out], by rw [show ((P (k + 1) : Nat) : Int) = (Ta : Int) + z by have := HP1.out; omega], by rw [← HTY2.out]; exact HS3.out, HB5.out.setCell (p := ⟨g, k * 4, none⟩) HGB.out _⟩
        case measure => rw [HWR.out]; simp [intOf]; omega
      · have hTN := HTN.out h35
        have HTN2 := Lib.hid hTN
        have e35 : (X.toList == [35]) = false := by rw [Lib.toList_data]; simpa using h35
        clear hTN HTN HTY HK6 h35 hwr
        go_wp2_with fail
        go_roundw
        case rel => exact ⟨k + 1, by omega, by rw [HWR.out], by rw [show ((P (k + 1) : Nat) : Int) = (Ta : Int) + z by have := HP1.out; omega], by rw [← HTN2.out]; exact HO5.out, HB5.out⟩
        case measure => rw [HWR.out]; simp [intOf]; omega
    · obtain rfl : k = D.length := by omega
      obtain ⟨hc1, hc2⟩ : D.length ≤ cap ∧ cap ≤ maxLen := by
        rcases hO.out.2 with ⟨e, _⟩ | ⟨g', cap', cur, e, _, _, h1, h2, _⟩
        · cases e
        · simp only [Value.slice.injEq, true_and] at e
          obtain ⟨_, rfl⟩ := e
          exact ⟨h1, h2⟩
      have HR := Lib.hid (Rd.of_own hO.out)
      rw [mix_all] at HR
      have HC := Lib.hid (And.intro hc1 hc2)
      have hgw := (hO.out.lt g rfl).2
      obtain ⟨n, hn⟩ : ∃ n, D.length = n + 1 := ⟨D.length - 1, by have := HPOS.out; omega⟩
      have hdl : D.dropLast.length = n := by rw [List.length_dropLast, hn]; rfl
      have HDL := Lib.hid hdl
      have HN := Lib.hid hn
      have s1 : (D.length : Int) - 1 = (n : Int) := by omega
      have s2 : IntKind.i64.wrap (n : Int) = (n : Int) := IntWalk.i64_in _ (by have := HLS.out; have := HLEN.out; omega)
      have s3 : wrap64 (n : Int) = (n : Int) := by have := HLS.out; have := HLEN.out; unfold wrap64; omega
      have b1 : (n : Int) ≤ (cap : Int) := by clear hc2; omega
      clear hdl hn hlt hk hO hc1 hc2
      go_wp2
      go_ret2
      obtain ⟨ys, hys⟩ := cells_last D HPOS.out
      refine ⟨g, cap, by first | (rw [List.length_dropLast, HN.out]; rfl) | (rw [HDL.out]; rfl) | (rw [HN.out]; rfl), by have h1 := HN.out; have h2 := HC.out.1; have h3 := HDL.out; clear HC; first | omega | (rw [h3]; omega), HC.out.2, HGB.out, ?_, hB.out⟩
      have hr := HR.out
      rw [hys] at hr
      exact rd_pre hr

end Go.Proofs.YtjdpkhjoecfhlaaGreatDoor
