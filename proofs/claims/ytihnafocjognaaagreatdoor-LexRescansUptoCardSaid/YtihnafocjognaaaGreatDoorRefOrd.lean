/- The document's ordered: it gives what the program's ordered gives. -/
import Derived.Test.YtihnafocjognaaaGreatDoorSort
import Derived.Test.YtihnafocjognaaaGreatDoorOrder
import Derived.Test.YtihnafocjognaaaGreatDoorJoin
import Derived.Deep.RegionHeld3
import Derived.Deep.QuietTactic
import Derived.BigQuiet
import Derived.IntWalk
import Derived.Deep.DeepCutAuto
namespace Go.Proofs.YtihnafocjognaaaGreatDoor
open Go.RowKit Go.Maps

theorem below_cells' {w w' : World} (h : Below w.heap.size w w') {p : Addr} {v : Value} (hc : w.cell? p = some v) : w'.cell? p = some v := by
  refine (h.cell (p := p) ?_).trans hc
  rcases Nat.lt_or_ge p.block w.heap.size with g | g
  · exact g
  · unfold World.cell? at hc
    rw [Array.getElem?_eq_none g] at hc
    cases hc

set_option maxHeartbeats 4000000 in
set_option maxRecDepth 100000 in
theorem refOrdered_any (A : Option Addr) (c : Nat) (l : List Ed) (w : World) (hl : l.length ≤ 100000) (h : ESl w w.heap.size A l) :
    Calls Tryz.prog 37 #[.slice A l.length c] w fun e w' => ∃ v', e = .returned v' ∧ w'.ownsRow w.heap.size 24 3 v' (ordF l).length (cellsE (ordF l)) ∧ Below w.heap.size w w' := by
  obtain ⟨i0, hi, hz0, hz1, hz2⟩ := info_parts infoEd
  have HH := Lib.hid h
  clear h
  go_enter Tryz.func37, Tryz.ntmps37
  go_wp2
  go_loopw [3, 4] (fun vo vi wr => ∃ k : Nat, k ≤ l.length ∧ vi = .int .i64 k ∧ Hid (wr.ownsRow w.heap.size 24 3 vo (ordF (l.take k)).length (cellsE (ordF (l.take k)))) ∧ Hid (Below w.heap.size w wr)) (fun _ i _ => l.length - (intOf i).toNat)
  case atStart => exact ⟨0, Nat.zero_le _, rfl, World.ownsRow_nil _ _ _ _, Below.refl _ _⟩
  case round =>
    obtain ⟨k, hk, rfl, hO, hb⟩ := hrel
    by_cases hlt : k < l.length
    · obtain ⟨b, off, rfl, hB, c0, c1, c2⟩ := (HH.out.below hb.out).at_ k hlt
      have hsame := ord_same l k hlt
      have hsunk := fun j => ord_sunk l k j hlt
      have hso := sorted_ordF (l.take k)
      have hol : (ordF (l.take k)).length ≤ l.length := by have := length_ordF (l.take k); rw [List.length_take] at this; omega
      generalize ordF (l.take k) = o at *
      generalize l[k] = x at *
      have HSA := Lib.hid hsame
      have HSU := Lib.hid hsunk
      have HSO := Lib.hid hso
      obtain ⟨A3, c3, rfl, hA3, h31, h32, hE3⟩ := IsE.of_own rfl hO.out
      have HE3 := Lib.hid hE3
      have hbs := hb.out.size
      clear hsame hsunk hso hA3 hE3
      go_wp2
      obtain ⟨wo, rfl⟩ : ∃ wo : World, wo = wr := ⟨_, rfl⟩
      go_loopw [5, 6] (fun vt vq wq => ∃ (q : Nat) (t : Bool), q ≤ o.length ∧ vq = .int .i64 q ∧ vt = .bool t ∧ Hid (t = decide (x ∈ o.take q)) ∧ Below wo.heap.size wo wq) (fun _ vq _ => o.length - (intOf vq).toNat)
      case atStart => exact ⟨0, false, Nat.zero_le _, rfl, rfl, by unfold Hid; simp, Below.refl _ _⟩
      case round =>
        obtain ⟨q, t, hq, rfl, rfl, ht, hbq⟩ := hrel
        have d0 := below_cells' hbq c0
        have d1 := below_cells' hbq c1
        have d2 := below_cells' hbq c2
        by_cases hql : q < o.length
        · obtain ⟨b3, off3, rfl, hB3, e0, e1, e2⟩ := (HE3.out.below hbq).at_ q hql
          have hin : (x ∈ o.take (q + 1)) ↔ (x ∈ o.take q ∨ o[q] = x) := by
            rw [List.take_succ_eq_append_getElem hql, List.mem_append, List.mem_singleton]
            exact ⟨fun h => h.imp id Eq.symm, fun h => h.imp id Eq.symm⟩
          generalize o[q] = y at *
          have HIN := Lib.hid hin
          clear hin c0 c1 c2
          have i1 : (0 : Int) ≤ (q : Int) := by omega
          have i2 : (q : Int) < (o.length : Int) := by omega
          have i3 : (0 : Int) ≤ (k : Int) := by omega
          have i4 : (k : Int) < (l.length : Int) := by omega
          have heq := fun W => run_eqlEd y x W
          cases t
          · by_cases hxy : y = x
            · rw [decide_eq_true hxy] at heq
              have HXY := Lib.hid hxy
              clear hxy
              go_wp2
              go_quiet (fail)
              go_wp2
              go_roundw
              case rel => exact ⟨q + 1, true, by omega, by go_num, rfl, by unfold Hid; exact (decide_eq_true (HIN.out.2 (.inr HXY.out))).symm, below_drawn hbq _⟩
              case measure => simp [intOf]; omega
            · rw [decide_eq_false hxy] at heq
              have HXY := Lib.hid hxy
              clear hxy
              go_wp2
              go_quiet (fail)
              go_wp2
              go_roundw
              case rel => exact ⟨q + 1, false, by omega, by go_num, rfl, by unfold Hid; exact (decide_eq_false (fun g => (HIN.out.1 g).elim (fun g1 => absurd (decide_eq_true g1) (by rw [← ht.out]; simp)) HXY.out)).symm, below_drawn hbq _⟩
              case measure => simp [intOf]; omega
          · go_wp2
            go_quiet (fail)
            go_wp2
            go_roundw
            case rel => exact ⟨q + 1, true, by omega, by go_num, rfl, by unfold Hid; exact (decide_eq_true (HIN.out.2 (.inl (of_decide_eq_true ht.out.symm)))).symm, below_drawn hbq _⟩
            case measure => simp [intOf]; omega
        · obtain rfl : q = o.length := by omega
          have ht1 := ht.out
          rw [List.take_length] at ht1
          have HO4 := Lib.hid (own_below hO.out hbq)
          have HB4 := Lib.hid (hb.out.trans (hbq.mono hbs))
          have hbs4 := HB4.out.size
          have HT := Lib.hid ht1
          clear ht1 ht hO hb hbq c0 c1 c2
          cases t
          · have hx : x ∉ o := fun g => by have := HT.out; rw [decide_eq_true g] at this; cases this
            have HX := Lib.hid hx
            clear hx
            have hnw : ∀ j u, (#[Value.int .i64 x.f, .int .i64 x.t, .string x.s] : Array Value).toList[j]? = some u → (wr.alloc (.cells #[.int .i64 x.f, .int .i64 x.t, .string x.s] 24)).cell? ((⟨wr.heap.size, 0, none⟩ : Addr).add j) = some u :=
              World.news_of_block (t := 24) (fr := (0, 0)) (heap_alloc_new wr _)
            have HNW := Lib.hid hnw
            clear hnw
            go_wp2_with (at_builtin; refine wpList_append_own _ rfl (.tmp 34) (.tmp 39) 38 rfl w.heap.size 24 i0 _ 3 32 Tryz.underlying38 hi hz0 hz1 hz2 rfl (by decide) _ o.length (cellsE o) rfl (HO4.out.alloc _) ⟨wr.heap.size, 0, none⟩ 1 1 [.int .i64 x.f, .int .i64 x.t, .string x.s] rfl rfl HNW.out (by simp [Value.oneCell']) (by unfold maxLen; omega) (by omega) (by simp; omega) ?_; intro v' w5 hown' hgr _; obtain ⟨g, cap, rfl, hgb, hglt⟩ := hown'.form (by omega))
            have e1 : cellsE o ++ [.int .i64 x.f, .int .i64 x.t, .string x.s] = cellsE (o ++ [x]) := by rw [cellsE_append]; rfl
            rw [e1, show o.length + 1 = (o ++ [x]).length by simp] at hown'
            obtain ⟨hEB5, _, hcap1, hcap2⟩ := EB.of_own hown'
            have hSZ5 := sz_of_own hown'
            rw [← sunk_end] at hEB5
            have hcap3 : o.length + 1 ≤ cap := by simpa using hcap1
            have HB5 := Lib.hid ((HB4.out.alloc hbs4 _).grown hgr (by simp; omega) (fun k e => (HO4.out.lt k e).1))
            have HEB5 := Lib.hid hEB5
            have HSZ5 := Lib.hid hSZ5
            have hd0 : ∀ y ∈ o.drop o.length, ltE x y := fun y hy => by simp at hy
            have HD0 := Lib.hid hd0
            clear hown' hgr hEB5 hSZ5 hcap1 e1 hd0 HO4 HB4 HNW
            go_wp2_with fail
            go_loopw [7] (fun vj wq => ∃ j : Nat, j ≤ o.length ∧ vj = .int .i64 j ∧ Hid (EB wq g (sunk o x j)) ∧ Hid (SZ wq g (cap * 3)) ∧ Hid (∀ y ∈ o.drop j, ltE x y) ∧ Hid (Below w.heap.size w wq)) (fun vj _ => (intOf vj).toNat)
            case atStart => exact ⟨o.length, Nat.le_refl _, rfl, HEB5.out, HSZ5.out, HD0.out, HB5.out⟩
            case round =>
              clear HEB5 HSZ5 HD0 HB5 d0 d1 d2
              obtain ⟨j, hj, rfl, hEB, hSZ, hD, hbw⟩ := hrel
              obtain ⟨wz, rfl⟩ : ∃ wz : World, wz = wr := ⟨_, rfl⟩
              have hgw := hEB.out.lt
              have hbwz := hbw.out.size
              have done_ : (∀ y ∈ o.take j, ltE y x) → ∀ W : World, Below wz.heap.size wz W → Hid (W.ownsRow w.heap.size 24 3 (.slice (some ⟨g, 0, none⟩) (o.length + 1) cap) (ordF (l.take (k + 1))).length (cellsE (ordF (l.take (k + 1))))) := fun hT W hW => by
                have hs := HSU.out j (sunk_sorted o x j HSO.out hT hD.out)
                have hw := own_of_eb (base := w.heap.size) (hEB.out.below2 hW hgw) (hSZ.out.below hW hgw) hgb (by rw [sunk_length]; exact hcap3) hcap2
                rw [sunk_length, hs] at hw
                have hl2 : (ordF (l.take (k + 1))).length = o.length + 1 := by rw [← hs, sunk_length]
                rw [hl2]
                exact hw
              have HDN := Lib.hid done_
              clear done_
              by_cases hj0 : j = 0
              · have p1 : ¬ (0 : Int) < (j : Int) := by omega
                have p2 : decide ((0 : Int) < (j : Int)) = false := by simp; omega
                have p3 : decide (0 < j) = false := by simp; omega
                have hfin := fun W hW => HDN.out (fun y hy => by rw [hj0] at hy; simp at hy) W hW
                have HF := Lib.hid hfin
                clear hj0 hfin HDN
                go_wp2_with fail
                go_quiet (fail)
                go_wp2
                go_roundw
                case rel => exact ⟨k + 1, by omega, by go_num, HF.out _ (below_drawn (Below.refl _ _) _), hbw.out.trans (Below.mono (below_drawn (Below.refl _ _) _) hbwz)⟩
                case measure => simp [intOf]; omega
              · obtain ⟨i, rfl⟩ : ∃ i, j = i + 1 := ⟨j - 1, by omega⟩
                have hio : i < o.length := by omega
                have hE := hEB.out
                have hlen := sunk_length o x (i + 1)
                obtain ⟨x0, x1, x2⟩ := hE.at_ (i + 1) (by omega)
                obtain ⟨y0, y1, y2⟩ := hE.at_ i (by omega)
                have hsx := sunk_at o x (i + 1) hj
                have hsy := sunk_before o x (i + 1) (by omega) hj
                simp only [Nat.add_sub_cancel] at hsy
                rw [hsx] at x0 x1 x2
                rw [hsy] at y0 y1 y2
                have hless := take_less o x (i + 1) (by omega) hj HSO.out HX.out
                have hmore := drop_more' o x (i + 1) (by omega) hj
                have hswap := sunk_swap o x (i + 1) (by omega) hj
                simp only [Nat.add_sub_cancel] at hless hmore hswap
                have hbf := fun W => before_any x o[i] W
                generalize o[i] = y at *
                have HLS := Lib.hid hless
                have HMO := Lib.hid hmore
                have HSW := Lib.hid hswap
                have hbd : Below wz.heap.size wz wz.drew := (Below.refl _ _).drew
                have b1 : (0 : Int) ≤ (i : Int) := by omega
                have b2 : (i : Int) < (o.length : Int) + 1 := by omega
                have b3 : (i : Int) + 1 < (o.length : Int) + 1 := by omega
                have b4 : (0 : Int) ≤ (i : Int) + 1 := by omega
                have b5 : decide ((0 : Int) < (i : Int) + 1) = true := by simp
                have s1 : IntKind.i64.wrap ((i : Int) + 1 - 1) = (i : Int) := by rw [show (i : Int) + 1 - 1 = i by omega]; exact IntWalk.i64_in _ (by omega)
                have s2 : IntKind.i64.wrap (i : Int) = (i : Int) := IntWalk.i64_in _ (by omega)
                have HLEN := Lib.hid hlen
                clear hsx hsy hless hmore hswap hE hj0 hlen
                by_cases hcx : cmpE x y < 0
                · rw [decide_eq_true hcx] at hbf
                  have HBF2 := Lib.hid hbf
                  have HCX := Lib.hid hcx
                  clear hbf hcx HLS HDN
                  go_wp2_with fail
                  go_region_held3 (fun w' => w'.cell? ⟨g, (i + 1) * 3, none⟩ = some (.int .i64 x.f) ∧ w'.cell? ⟨g, (i + 1) * 3 + 1, none⟩ = some (.int .i64 x.t) ∧ w'.cell? ⟨g, (i + 1) * 3 + 2, none⟩ = some (.string x.s) ∧ w'.cell? ⟨g, i * 3, none⟩ = some (.int .i64 y.f) ∧ w'.cell? ⟨g, i * 3 + 1, none⟩ = some (.int .i64 y.t) ∧ w'.cell? ⟨g, i * 3 + 2, none⟩ = some (.string y.s) ∧ Below wz.heap.size wz w')
                    (go_keep)
                    ((first | (go_at_call 58; refine (HBF2.out _).mono ?_; rintro e w' ⟨rfl, hbt⟩; have f1 : w'.cell? ⟨g, (i + 1) * 3, none⟩ = some (.int .i64 x.f) := below_cells' hbt (by assumption); have f2 : w'.cell? ⟨g, (i + 1) * 3 + 1, none⟩ = some (.int .i64 x.t) := below_cells' hbt (by assumption); have f3 : w'.cell? ⟨g, (i + 1) * 3 + 2, none⟩ = some (.string x.s) := below_cells' hbt (by assumption); have f4 : w'.cell? ⟨g, i * 3, none⟩ = some (.int .i64 y.f) := below_cells' hbt (by assumption); have f5 : w'.cell? ⟨g, i * 3 + 1, none⟩ = some (.int .i64 y.t) := below_cells' hbt (by assumption); have f6 : w'.cell? ⟨g, i * 3 + 2, none⟩ = some (.string y.s) := below_cells' hbt (by assumption); have f7 : Below wz.heap.size wz w' := Below.trans (by assumption) (hbt.mono (Below.size (by assumption))))))
                  have hEB' := hEB.out.below2 f7 hgw
                  have hSZ' := hSZ.out.below f7 hgw
                  have hgw' : g < w'.heap.size := hEB'.lt
                  have hst1 := hEB'.store (i + 1) (by rw [HLEN.out]; omega) y
                  have hsz1 := hSZ'.store ((i + 1) * 3) (Ed.cells y)
                  have g0 := hEB'.frozen ((i + 1) * 3)
                  have g1 := hEB'.frozen ((i + 1) * 3 + 1)
                  have g2 := hEB'.frozen ((i + 1) * 3 + 2)
                  have HST1 := Lib.hid hst1
                  have HSZ1 := Lib.hid hsz1
                  have hbw' := hbw.out.trans (f7.mono hbwz)
                  have HBW' := Lib.hid hbw'
                  have hbs' := hbw'.size
                  clear hEB' hSZ' hst1 hsz1 hbw' f7 hbd
                  go_upto_region 16 with (fail)
                  go_cut [7] (fun v wx => v = .int .i64 ((i : Int) + 1) ∧ Hid (EB wx g ((sunk o x (i + 1)).set (i + 1) y)) ∧ wx.heap[w'.heap.size]? = some (.cells #[.int .i64 x.f, .int .i64 x.t, .string x.s] 24 (0, 0)) ∧ Hid (SZ wx g (cap * 3)) ∧ Hid (Below w.heap.size w wx))
                  case first =>
                    go_wp2_with fail
                    go_meet
                    refine ⟨rfl, ?_, ?_, ?_, ?_⟩
                    · exact HST1.out.below2 ((Below.refl _ _).alloc (Nat.le_refl _) _) (by simpa [World.setCells, Ed.cells] using hgw')
                    · have := heap_alloc_new (((w'.setCell ⟨g, (i + 1) * 3, none⟩ (.int .i64 y.f)).setCell ⟨g, (i + 1) * 3 + 1, none⟩ (.int .i64 y.t)).setCell ⟨g, (i + 1) * 3 + 2, none⟩ (.string y.s)) (.cells #[.int .i64 x.f, .int .i64 x.t, .string x.s] 24)
                      simpa using this
                    · exact HSZ1.out.below ((Below.refl _ _).alloc (Nat.le_refl _) _) (by simpa [World.setCells, Ed.cells] using hgw')
                    · exact (((HBW'.out.setCell (p := ⟨g, (i + 1) * 3, none⟩) (by show _ ≤ g; omega) _).setCell (p := ⟨g, (i + 1) * 3 + 1, none⟩) (by show _ ≤ g; omega) _).setCell (p := ⟨g, (i + 1) * 3 + 2, none⟩) (by show _ ≤ g; omega) _).alloc (by simp; omega) _
                  case rest =>
                    obtain ⟨rfl, hEB2, hx2, hSZ2, hB2⟩ := hcut
                    obtain ⟨wd, hwd⟩ : ∃ v : World, v = wc := ⟨_, rfl⟩
                    subst hwd
                    clear x0 x1 x2 y0 y1 y2 g0 g1 g2 f1 f2 f3 f4 f5 f6 HST1 HSZ1
                    obtain ⟨y0, y1, y2⟩ := hEB2.out.at_ i (by rw [List.length_set, HLEN.out]; omega)
                    have g0 := hEB2.out.frozen (i * 3)
                    have g1 := hEB2.out.frozen (i * 3 + 1)
                    have g2 := hEB2.out.frozen (i * 3 + 2)
                    have hst2 := hEB2.out.store i (by rw [List.length_set, HLEN.out]; omega) x
                    rw [HSW.out] at hst2
                    have HST2 := Lib.hid hst2
                    have HSZ3 := Lib.hid (hSZ2.out.store (i * 3) (Ed.cells x))
                    have e0 : wd.cell? ⟨w'.heap.size, 0, none⟩ = some (.int .i64 x.f) := cell_of_row _ _ 0 _ _ (0, 0) hx2
                    have e1 : wd.cell? ⟨w'.heap.size, 1, none⟩ = some (.int .i64 x.t) := cell_of_row _ _ 1 _ _ (0, 0) hx2
                    have e2 : wd.cell? ⟨w'.heap.size, 2, none⟩ = some (.string x.s) := cell_of_row _ _ 2 _ _ (0, 0) hx2
                    clear hst2 hx2
                    go_wp2
                    go_roundw
                    case rel => exact ⟨i, by omega, by go_num, HST2.out, HSZ3.out, HMO.out HCX.out hD.out, (((hB2.out.setCell (p := ⟨g, i * 3, none⟩) (by show _ ≤ g; omega) _).setCell (p := ⟨g, i * 3 + 1, none⟩) (by show _ ≤ g; omega) _).setCell (p := ⟨g, i * 3 + 2, none⟩) (by show _ ≤ g; omega) _)⟩
                    case measure => simp [intOf]
                · rw [decide_eq_false hcx] at hbf
                  have HBF2 := Lib.hid hbf
                  have HF := Lib.hid (HDN.out (HLS.out hcx))
                  clear hbf hcx HLS HDN HMO HSW
                  go_wp2_with fail
                  go_region_held3 (fun w' => w'.cell? ⟨g, (i + 1) * 3, none⟩ = some (.int .i64 x.f) ∧ w'.cell? ⟨g, (i + 1) * 3 + 1, none⟩ = some (.int .i64 x.t) ∧ w'.cell? ⟨g, (i + 1) * 3 + 2, none⟩ = some (.string x.s) ∧ w'.cell? ⟨g, i * 3, none⟩ = some (.int .i64 y.f) ∧ w'.cell? ⟨g, i * 3 + 1, none⟩ = some (.int .i64 y.t) ∧ w'.cell? ⟨g, i * 3 + 2, none⟩ = some (.string y.s) ∧ Below wz.heap.size wz w')
                    (go_keep)
                    ((first | (go_at_call 58; refine (HBF2.out _).mono ?_; rintro e w' ⟨rfl, hbt⟩; have f1 : w'.cell? ⟨g, (i + 1) * 3, none⟩ = some (.int .i64 x.f) := below_cells' hbt (by assumption); have f2 : w'.cell? ⟨g, (i + 1) * 3 + 1, none⟩ = some (.int .i64 x.t) := below_cells' hbt (by assumption); have f3 : w'.cell? ⟨g, (i + 1) * 3 + 2, none⟩ = some (.string x.s) := below_cells' hbt (by assumption); have f4 : w'.cell? ⟨g, i * 3, none⟩ = some (.int .i64 y.f) := below_cells' hbt (by assumption); have f5 : w'.cell? ⟨g, i * 3 + 1, none⟩ = some (.int .i64 y.t) := below_cells' hbt (by assumption); have f6 : w'.cell? ⟨g, i * 3 + 2, none⟩ = some (.string y.s) := below_cells' hbt (by assumption); have f7 : Below wz.heap.size wz w' := Below.trans (by assumption) (hbt.mono (Below.size (by assumption))))))
                  go_wp2
                  go_roundw
                  case rel => exact ⟨k + 1, by omega, by go_num, HF.out _ (by assumption), hbw.out.trans (Below.mono (by assumption) hbwz)⟩
                  case measure => simp [intOf]; omega
          · have hx : x ∈ o := of_decide_eq_true HT.out.symm
            have HS2 := Lib.hid (HSA.out hx)
            clear hx
            go_wp2
            go_roundw
            case rel =>
              refine ⟨k + 1, by omega, by go_num, ?_, HB4.out⟩
              unfold Hid
              rw [← HS2.out]
              exact HO4.out
            case measure => simp [intOf]; omega
    · obtain rfl : k = l.length := by omega
      rw [List.take_length] at hO
      go_wp2
      go_ret
      exact ⟨_, rfl, hO.out, hb.out⟩

end Go.Proofs.YtihnafocjognaaaGreatDoor
