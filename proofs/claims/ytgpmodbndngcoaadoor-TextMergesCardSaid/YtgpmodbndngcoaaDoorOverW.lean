/- Over: one list of edits over another one. -/
import Derived.Test.YtgpmodbndngcoaaDoorMerg
import Derived.Test.YtgpmodbndngcoaaDoorApp
import Derived.Test.YtgpmodbndngcoaaDoorRefOrd
namespace Go.Proofs.YtgpmodbndngcoaaDoor
open Go.RowKit Go.Maps

theorem overF_step (q : Nat) (FA : List Ed) (x : Ed) (ob : List Ed) (m : Int) (h : q < FA.length) : overF (FA.drop q) (x :: ob) m = if cmpE FA[q] x < 0 then overF (FA.drop (q + 1)) (x :: ob) (m + (FA[q].s.size - (FA[q].t - FA[q].f))) else if FA[q] = x then overF (FA.drop q) ob m else shiftE m x :: overF (FA.drop q) ob m := by
  rw [List.drop_eq_getElem_cons h, overF]
  unfold ltE'
  simp only [decide_eq_true_eq]

theorem overF_last (q : Nat) (FA : List Ed) (x : Ed) (ob : List Ed) (m : Int) (h : FA.length ≤ q) : overF (FA.drop q) (x :: ob) m = shiftE m x :: overF (FA.drop q) ob m := by
  rw [List.drop_eq_nil_of_le h, overF]

theorem overF_texts : ∀ (a b : List Ed) (m : Int), (textsL (overF a b m)).length ≤ (textsL b).length
  | a, [], m => by rw [overF_nil]; exact Nat.le_refl _
  | [], x :: b, m => by
    have := overF_texts [] b m
    rw [overF, textsL_cons, textsL_cons, List.length_append, List.length_append]
    show x.s.data.toList.length + _ ≤ _
    omega
  | y :: a, x :: b, m => by
    rw [overF]
    have h1 := overF_texts a (x :: b) (m + (y.s.size - (y.t - y.f)))
    have h2 := overF_texts (y :: a) b m
    have h3 : (textsL (x :: b)).length = x.s.data.toList.length + (textsL b).length := by rw [textsL_cons, List.length_append]
    split
    · exact h1
    · split
      · omega
      · rw [textsL_cons, List.length_append]
        show x.s.data.toList.length + _ ≤ _
        omega
termination_by a b => a.length + b.length

theorem texts_small : ∀ (l : List Ed) (B : Nat), (∀ x ∈ l, x.s.size ≤ B) → (textsL l).length ≤ l.length * B
  | [], _, _ => by simp [textsL]
  | x :: l, B, h => by
    have ih := texts_small l B (fun y hy => h y (by simp [hy]))
    have := h x (by simp)
    rw [textsL_cons, List.length_append, size_toL, List.length_cons, Nat.succ_mul]
    omega

theorem cmp_below (x y : Ed) (w : World) : Calls Tryd.prog 68 #[.agg #[.int .i64 x.f, .int .i64 x.t, .string x.s], .agg #[.int .i64 y.f, .int .i64 y.t, .string y.s]] w fun e w' => e = .returned (.int .i64 (cmpE x y)) ∧ Below w.heap.size w w' := by
  refine (compareEdits_any x y w).mono ?_
  rintro e w' ⟨rfl, q, os, rfl⟩
  exact ⟨rfl, rfl, rfl, rfl, by simp [Go.Sort.grow], fun k hk => by
    show ((w.drewN q).heap ++ os)[k]? = _
    rw [Array.getElem?_append_left (by exact hk)]; rfl⟩

set_option maxHeartbeats 8000000 in
set_option maxRecDepth 100000 in
theorem over_any (s : ByteArray) (va vb : Value) (a b : List Ed) (w : World) (hs : s.size ≤ 140737488355328) (ha : a.length ≤ 10000) (hb : b.length ≤ 10000) (hTa : SmallT a) (hTb : SmallT b) (h1 : IsE w va a) (h2 : IsE w vb b) :
    Calls Tryd.prog 28 #[.string s, va, vb] w fun e w' => ∃ v', e = .returned (.tuple #[v', .int .i64 (mergF s.size a b)]) ∧ IsE w' v' (if mergF s.size a b = 0 then overE a b else []) ∧ Below w.heap.size w w' := by
  have hm := merge_any s va vb a b w hs (by omega) (by omega) h1 h2
  by_cases h0 : mergF s.size a b = 0
  · obtain ⟨z1, z2, z3⟩ := mergF_zero h0
    obtain ⟨r1, r2, r3, r4⟩ := fineF_range z1
    obtain ⟨t1, t2, t3, t4⟩ := fineF_range z2
    have hRa : ∀ x ∈ ordF a, rangeOk s.size x := fun x hx => r3 x ((mem_ordF x a).1 hx)
    have hRb : ∀ x ∈ ordF b, rangeOk s.size x := fun x hx => t3 x ((mem_ordF x b).1 hx)
    have hTa' := hTa.ord
    have hTb' := hTb.ord
    have hla := length_ordF a
    have hlb := length_ordF b
    rw [if_pos h0, h0]
    rw [h0] at hm
    unfold overE
    have ho1 := fun W (hW : Below w.heap.size w W) => ordered_any va a W (by omega) (IsE.below h1 hW)
    have ho2 := fun W (hW : Below w.heap.size w W) => ordered_any vb b W (by omega) (IsE.below h2 hW)
    have htx := texts_small (ordF b) 1000000 hTb'
    have hla2 : (ordF a).length ≤ 10000 := by omega
    have hlb2 : (ordF b).length ≤ 10000 := by omega
    generalize ordF a = FA at *
    generalize ordF b = OB at *
    generalize mergL s.size a b = ML at *
    obtain ⟨i0, hi, hz0, hz1, hz2⟩ := info_parts infoEd
    have HM := Lib.hid hm
    have HO1 := Lib.hid ho1
    have HO2 := Lib.hid ho2
    have HRA := Lib.hid hRa
    have HRB := Lib.hid hRb
    have HTA := Lib.hid hTa'
    have HTX := Lib.hid htx
    clear hm ho1 ho2 hRa hRb hTa hTb hTa' hTb' h1 h2 z1 z2 z3 r3 r4 t3 t4 hla hlb h0 htx
    go_enter Tryd.func28, Tryd.ntmps28
    go_wp2_with fail
    refine HM.out.mono ?_
    rintro e w1 ⟨v1, rfl, _, hb1⟩
    have HO1' := Lib.hid (HO1.out _ hb1)
    have HB1 := Lib.hid hb1
    clear hb1 HM HO1
    go_wp2_with fail
    refine HO1'.out.mono ?_
    rintro e w2 ⟨v2, rfl, hI2, hb2⟩
    have hbb := HB1.out.trans (hb2.mono HB1.out.size)
    have HO2' := Lib.hid (HO2.out _ hbb)
    have HB2 := Lib.hid hbb
    have HI2 := Lib.hid hI2
    clear hb2 hbb hI2 HO2 HO1' HB1
    go_wp2_with fail
    refine HO2'.out.mono ?_
    rintro e w3 ⟨v3, rfl, ⟨A3, c3, rfl, hA3, k31, k32, hE3⟩, hb3⟩
    obtain ⟨A2, c2, rfl, hA2, k21, k22, hE2⟩ := IsE.below HI2.out hb3
    have HB3 := Lib.hid (HB2.out.trans (hb3.mono HB2.out.size))
    have HE2 := Lib.hid hE2
    have HE3 := Lib.hid hE3
    unfold maxLen at k22 k32
    clear hA2 hA3 hE2 hE3 hb3 HO2' HB2 HI2
    go_wp2
    go_loopw [10, 11, 12, 30] (fun vf vo vm vi wr => ∃ (k q : Nat) (acc : List Ed) (A' : Option Addr) (c' : Nat), k ≤ OB.length ∧ q ≤ FA.length ∧ vi = .int .i64 k ∧ vf = .slice A' (FA.drop q).length c' ∧ (FA.drop q).length ≤ c' ∧ c' ≤ c2 ∧ vm = .int .i64 (gsum (FA.take q)) ∧ acc.length ≤ k ∧
        Hid (acc ++ overF (FA.drop q) (OB.drop k) (gsum (FA.take q)) = overF FA OB 0) ∧ Hid (ESl w3 w3.heap.size A' (FA.drop q)) ∧ Hid (wr.ownsRow w3.heap.size 46 3 vo acc.length (cellsE acc)) ∧ Hid (Below w3.heap.size w3 wr)) (fun _ _ _ vi _ => OB.length - (intOf vi).toNat)
    case atStart => exact ⟨0, 0, [], A2, c2, Nat.zero_le _, Nat.zero_le _, rfl, rfl, k21, Nat.le_refl _, rfl, Nat.le_refl _, rfl, HE2.out, World.ownsRow_nil _ _ _ _, Below.refl _ _⟩
    case round =>
      obtain ⟨k, q, acc, A', c', hk, hq, rfl, rfl, hc1, hc2, rfl, hac, hov, hEf, hO, hb⟩ := hrel
      have hbs := hb.out.size
      have hgq := fun q => gsum_bound s.size r1 (FA.take q) (fun x hx => HTA.out x (List.mem_of_mem_take hx)) (fun x hx => HRA.out x (List.mem_of_mem_take hx))
      have hgq2 : ∀ q, -2000000000 ≤ gsum (FA.take q) ∧ gsum (FA.take q) ≤ 10000000000 := fun q => by
        have := hgq q
        have h : (FA.take q).length ≤ 10000 := by rw [List.length_take]; omega
        omega
      have HGQ := Lib.hid hgq2
      clear hgq hgq2
      by_cases hlt : k < OB.length
      · obtain ⟨bx, ox, ex, hbx, c0, c1, c2'⟩ := (HE3.out.below hb.out).at_ k hlt
        cases ex
        have hdrop := List.drop_eq_getElem_cons hlt
        have hrx := HRB.out _ (List.getElem_mem hlt)
        unfold rangeOk at hrx
        have hov1 := hov.out
        rw [hdrop] at hov1
        generalize OB[k] = x at *
        have HOV := Lib.hid hov1
        have hxb := heap_alloc_new wr (.cells #[.int .i64 x.f, .int .i64 x.t, .string x.s] 46)
        have HXB := Lib.hid hxb
        clear hdrop hov hov1 hxb
        obtain ⟨wz, rfl⟩ : ∃ wz : World, wz = wr := ⟨_, rfl⟩
        have HBZ := Lib.hid (hb.out.alloc hbs (.cells #[.int .i64 x.f, .int .i64 x.t, .string x.s] 46))
        go_wp2
        go_loopw [10, 12] (fun vf vm wr => ∃ (q : Nat) (A' : Option Addr) (c' : Nat), q ≤ FA.length ∧ vf = .slice A' (FA.drop q).length c' ∧ (FA.drop q).length ≤ c' ∧ c' ≤ c2 ∧ vm = .int .i64 (gsum (FA.take q)) ∧ Hid (acc ++ overF (FA.drop q) (x :: OB.drop (k + 1)) (gsum (FA.take q)) = overF FA OB 0) ∧ Hid (ESl w3 w3.heap.size A' (FA.drop q)) ∧ Hid (Below (wz.heap.size + 1) (wz.alloc (.cells #[.int .i64 x.f, .int .i64 x.t, .string x.s] 46)) wr)) (fun vf _ _ => match vf with | .slice _ n _ => n | _ => 0)
        case atStart => exact ⟨q, A', c', hq, rfl, hc1, hc2, rfl, HOV.out, hEf.out, Below.refl _ _⟩
        case round =>
          clear HOV hEf hq hc1 hc2
          obtain ⟨q, A', c', hq, rfl, hc1, hc2, rfl, hov, hEf, hbi⟩ := hrel
          obtain ⟨wy, rfl⟩ : ∃ wy : World, wy = wr := ⟨_, rfl⟩
          have hby : Below wz.heap.size wz wy := ((Below.refl wz.heap.size wz).alloc (Nat.le_refl _) _).trans (hbi.out.mono (by omega))
          have hyz := hbi.out.size
          rw [show (wz.alloc (.cells #[.int .i64 x.f, .int .i64 x.t, .string x.s] 46)).heap.size = wz.heap.size + 1 by simp] at hyz
          have hxy := (hbi.out.block wz.heap.size (by omega)).trans HXB.out
          have e0 : wy.cell? ⟨wz.heap.size, 0, none⟩ = some (.int .i64 x.f) := cell_of_row _ _ 0 _ _ (0, 0) hxy
          have e1 : wy.cell? ⟨wz.heap.size, 1, none⟩ = some (.int .i64 x.t) := cell_of_row _ _ 1 _ _ (0, 0) hxy
          have e2 : wy.cell? ⟨wz.heap.size, 2, none⟩ = some (.string x.s) := cell_of_row _ _ 2 _ _ (0, 0) hxy
          have hb3y := hb.out.trans (hby.mono hbs)
          have HB3Y := Lib.hid hb3y
          have HOY := Lib.hid (own_below hO.out hby)
          obtain ⟨g1, g2⟩ := HGQ.out q
          have hlenq : (FA.drop q).length = FA.length - q := List.length_drop
          clear hxy
          by_cases hql : q < FA.length
          · obtain ⟨b1, o1, eA, hb1, y0, y1, y2⟩ := (hEf.out.below hb3y).at_ 0 (by omega)
            cases eA
            simp only [Nat.zero_mul, Nat.add_zero, List.getElem_drop] at y0 y1 y2
            have hst := overF_step q FA x (OB.drop (k + 1)) (gsum (FA.take q)) hql
            have hgt := gsum_take FA q hql
            have hry := HRA.out _ (List.getElem_mem hql)
            have hty := HTA.out _ (List.getElem_mem hql)
            unfold rangeOk at hry
            have hov1 := hov.out
            rw [hst] at hov1
            have hdE := hEf.out.drop 1
            rw [List.drop_drop] at hdE
            have hcm := fun W => cmp_below FA[q] x W
            have heq := fun W => run_eqlEd FA[q] x W
            generalize FA[q] = y at *
            generalize hGE : gsum (FA.take q) = G at *
            have HGE := Lib.hid hGE
            clear hGE
            have HOV := Lib.hid hov1
            have HGT := Lib.hid hgt
            have HDE := Lib.hid hdE
            have HLQ := Lib.hid hlenq
            obtain ⟨n, hn⟩ : ∃ n, (FA.drop q).length = n + 1 := ⟨(FA.drop q).length - 1, by omega⟩
            have hn2 : (FA.drop (q + 1)).length = n := by rw [List.length_drop] at hn ⊢; omega
            have HN2 := Lib.hid hn2
            have HN := Lib.hid hn
            rw [hn] at hc1
            generalize hNN : (FA.drop q).length = N at *
            subst hn
            have hm1 : (0 : Int) < (n : Int) + 1 := by omega
            have hm2 : decide ((0 : Int) < (n : Int) + 1) = true := by simp
            have hbd : Below wy.heap.size wy wy.drew := (Below.refl _ _).drew
            obtain ⟨hr1, hr2, hr3⟩ := hry
            obtain ⟨hx1, hx2, hx3⟩ := hrx
            clear hst hgt hov1 hdE hov hlenq hNN hn2
            by_cases hcx : cmpE y x < 0
            · rw [if_pos hcx] at HOV
              generalize cmpE y x = cv at *
              have HCM := Lib.hid hcm
              have hcv : decide (cv < 0) = true := by simp [hcx]
              have hgw := fun W => growth_any y.f y.t y.s W (by omega) hr1 hr2 (by omega)
              have HGW := Lib.hid hgw
              clear hcm heq hgw
              go_wp2_with fail
              go_region_held3 (fun w' => w'.cell? ⟨b1, o1, none⟩ = some (.int .i64 y.f) ∧ w'.cell? ⟨b1, o1 + 1, none⟩ = some (.int .i64 y.t) ∧ w'.cell? ⟨b1, o1 + 2, none⟩ = some (.string y.s) ∧ w'.cell? ⟨wz.heap.size, 0, none⟩ = some (.int .i64 x.f) ∧ w'.cell? ⟨wz.heap.size, 1, none⟩ = some (.int .i64 x.t) ∧ w'.cell? ⟨wz.heap.size, 2, none⟩ = some (.string x.s) ∧ Below wy.heap.size wy w')
                (go_keep)
                ((go_at_call 68; refine (HCM.out _).mono ?_; rintro e w' ⟨rfl, hbt⟩; have f1 : w'.cell? ⟨b1, o1, none⟩ = some (.int .i64 y.f) := below_cells' hbt (by assumption); have f2 : w'.cell? ⟨b1, o1 + 1, none⟩ = some (.int .i64 y.t) := below_cells' hbt (by assumption); have f3 : w'.cell? ⟨b1, o1 + 2, none⟩ = some (.string y.s) := below_cells' hbt (by assumption); have f4 : w'.cell? ⟨wz.heap.size, 0, none⟩ = some (.int .i64 x.f) := below_cells' hbt (by assumption); have f5 : w'.cell? ⟨wz.heap.size, 1, none⟩ = some (.int .i64 x.t) := below_cells' hbt (by assumption); have f6 : w'.cell? ⟨wz.heap.size, 2, none⟩ = some (.string x.s) := below_cells' hbt (by assumption); have f7 : Below wy.heap.size wy w' := Below.trans (by assumption) (hbt.mono (Below.size (by assumption)))))
              have hzw := hyz
              have HB7 := Lib.hid (hbi.out.trans (f7.mono hyz))
              have hbs7 : wz.heap.size + 1 ≤ w'.heap.size := by have := f7.size; omega
              go_wp2_with fail
              refine (HGW.out _).mono ?_
              rintro e w6 ⟨rfl, hb6⟩
              have HB8 := Lib.hid (HB7.out.trans (hb6.mono hbs7))
              clear hb6 HB7 f1 f2 f3 f4 f5 f6 f7
              go_wp2
              go_roundw
              case rel =>
                refine ⟨q + 1, if c' = 1 then some ⟨b1, o1, none⟩ else some ⟨b1, o1 + 3, none⟩, c' - 1, by omega, by rw [HN2.out], by rw [HN2.out]; omega, by omega, by rw [HGT.out], ?_, ?_, HB8.out⟩
                · unfold Hid
                  rw [HGT.out]
                  exact HOV.out
                · refine ESl.any fun hne => ?_
                  have : n ≠ 0 := fun e => hne (List.eq_nil_of_length_eq_zero (by rw [HN2.out]; exact e))
                  rw [if_neg (by omega)]
                  have := HDE.out
                  rwa [Nat.one_mul] at this
              case measure => simp
            · rw [if_neg hcx] at HOV
              have hcv0 : ¬ cmpE y x < 0 := hcx
              generalize cmpE y x = cv at *
              have HCM := Lib.hid hcm
              have hcv : decide (cv < 0) = false := by simp; omega
              clear hcm
              by_cases hyx : y = x
              · rw [if_pos hyx] at HOV
                rw [decide_eq_true hyx] at heq
                have HYX := Lib.hid hyx
                clear hyx hcx hcv0
                go_wp2_with fail
                go_region_held3 (fun w' => w'.cell? ⟨b1, o1, none⟩ = some (.int .i64 y.f) ∧ w'.cell? ⟨b1, o1 + 1, none⟩ = some (.int .i64 y.t) ∧ w'.cell? ⟨b1, o1 + 2, none⟩ = some (.string y.s) ∧ w'.cell? ⟨wz.heap.size, 0, none⟩ = some (.int .i64 x.f) ∧ w'.cell? ⟨wz.heap.size, 1, none⟩ = some (.int .i64 x.t) ∧ w'.cell? ⟨wz.heap.size, 2, none⟩ = some (.string x.s) ∧ Below wy.heap.size wy w')
                  (go_keep)
                  ((go_at_call 68; refine (HCM.out _).mono ?_; rintro e w' ⟨rfl, hbt⟩; have f1 : w'.cell? ⟨b1, o1, none⟩ = some (.int .i64 y.f) := below_cells' hbt (by assumption); have f2 : w'.cell? ⟨b1, o1 + 1, none⟩ = some (.int .i64 y.t) := below_cells' hbt (by assumption); have f3 : w'.cell? ⟨b1, o1 + 2, none⟩ = some (.string y.s) := below_cells' hbt (by assumption); have f4 : w'.cell? ⟨wz.heap.size, 0, none⟩ = some (.int .i64 x.f) := below_cells' hbt (by assumption); have f5 : w'.cell? ⟨wz.heap.size, 1, none⟩ = some (.int .i64 x.t) := below_cells' hbt (by assumption); have f6 : w'.cell? ⟨wz.heap.size, 2, none⟩ = some (.string x.s) := below_cells' hbt (by assumption); have f7 : Below wy.heap.size wy w' := Below.trans (by assumption) (hbt.mono (Below.size (by assumption)))))
                have HOW := Lib.hid (own_below HOY.out f7)
                have HBW := Lib.hid (HB3Y.out.trans (f7.mono HB3Y.out.size))
                clear f7 hbd HB3Y HOY
                go_wp2_with fail
                go_quiet (fail)
                go_wp2
                go_roundw
                case rel => exact ⟨k + 1, q, acc, some ⟨b1, o1, none⟩, c', by omega, by omega, by go_num, by rw [(show (FA.drop q).length = n + 1 from by have h := HN2.out; rw [List.length_drop] at h ⊢; omega)], by rw [(show (FA.drop q).length = n + 1 from by have h := HN2.out; rw [List.length_drop] at h ⊢; omega)]; omega, by omega, by rw [HGE.out], by omega, by unfold Hid; rw [HGE.out]; exact HOV.out, hEf.out, own_below HOW.out (below_drawn (Below.refl _ _) _), below_drawn HBW.out _⟩
                case measure => simp [intOf]; omega
              · rw [if_neg hyx] at HOV
                rw [decide_eq_false hyx] at heq
                clear hyx hcx hcv0
                go_wp2_with fail
                go_region_held3 (fun w' => w'.cell? ⟨b1, o1, none⟩ = some (.int .i64 y.f) ∧ w'.cell? ⟨b1, o1 + 1, none⟩ = some (.int .i64 y.t) ∧ w'.cell? ⟨b1, o1 + 2, none⟩ = some (.string y.s) ∧ w'.cell? ⟨wz.heap.size, 0, none⟩ = some (.int .i64 x.f) ∧ w'.cell? ⟨wz.heap.size, 1, none⟩ = some (.int .i64 x.t) ∧ w'.cell? ⟨wz.heap.size, 2, none⟩ = some (.string x.s) ∧ Below wy.heap.size wy w')
                  (go_keep)
                  ((go_at_call 68; refine (HCM.out _).mono ?_; rintro e w' ⟨rfl, hbt⟩; have f1 : w'.cell? ⟨b1, o1, none⟩ = some (.int .i64 y.f) := below_cells' hbt (by assumption); have f2 : w'.cell? ⟨b1, o1 + 1, none⟩ = some (.int .i64 y.t) := below_cells' hbt (by assumption); have f3 : w'.cell? ⟨b1, o1 + 2, none⟩ = some (.string y.s) := below_cells' hbt (by assumption); have f4 : w'.cell? ⟨wz.heap.size, 0, none⟩ = some (.int .i64 x.f) := below_cells' hbt (by assumption); have f5 : w'.cell? ⟨wz.heap.size, 1, none⟩ = some (.int .i64 x.t) := below_cells' hbt (by assumption); have f6 : w'.cell? ⟨wz.heap.size, 2, none⟩ = some (.string x.s) := below_cells' hbt (by assumption); have f7 : Below wy.heap.size wy w' := Below.trans (by assumption) (hbt.mono (Below.size (by assumption)))))
                have HOW' := Lib.hid (own_below HOY.out f7)
                have HBW' := Lib.hid (HB3Y.out.trans (f7.mono HB3Y.out.size))
                clear f7 hbd HB3Y HOY
                go_wp2_with fail
                go_quiet (fail)
                have hq9 := below_drawn (Below.refl w'.heap.size w') nq
                have d4 := below_cells' hq9 f4
                have d5 := below_cells' hq9 f5
                have d6 := below_cells' hq9 f6
                have HOW := Lib.hid (own_below HOW'.out hq9)
                have HBW := Lib.hid (below_drawn HBW'.out nq)
                clear hq9 f1 f2 f3 f4 f5 f6 HOW' HBW'
                generalize w'.drewN nq = wu at *
                have hbsw := HBW.out.size
                have HNW := Lib.hid (World.news_of_block (cs := #[.int .i64 (x.f + G), .int .i64 (x.t + G), .string x.s]) (t := 46) (fr := (0, 0)) (heap_alloc_new wu (.cells #[.int .i64 (x.f + G), .int .i64 (x.t + G), .string x.s] 46)))
                go_wp2_with (at_builtin; refine wpList_append_own _ rfl (.tmp 63) (.tmp 75) 30 rfl w3.heap.size 46 i0 _ 3 32 Tryd.underlying30 hi hz0 hz1 hz2 rfl (by decide) _ acc.length (cellsE acc) rfl (HOW.out.alloc _) ⟨wu.heap.size, 0, none⟩ 1 1 [.int .i64 (x.f + G), .int .i64 (x.t + G), .string x.s] rfl rfl HNW.out (by simp [Value.oneCell']) (by unfold maxLen; omega) (by omega) (by simp; omega) ?_; intro v' w5 hown' hgr _)
                have HB5 := Lib.hid ((HBW.out.alloc hbsw _).grown hgr (by simp; omega) (fun k e => (HOW.out.lt k e).1))
                have HO5 := Lib.hid hown'
                clear hown' hgr HOW HBW HNW
                go_wp2
                go_roundw
                case rel =>
                  refine ⟨k + 1, q, acc ++ [shiftE G x], some ⟨b1, o1, none⟩, c', by omega, by omega, by go_num, by rw [(show (FA.drop q).length = n + 1 from by have h := HN2.out; rw [List.length_drop] at h ⊢; omega)], by rw [(show (FA.drop q).length = n + 1 from by have h := HN2.out; rw [List.length_drop] at h ⊢; omega)]; omega, by omega, by rw [HGE.out], by rw [List.length_append]; simp; omega, ?_, hEf.out, ?_, HB5.out⟩
                  · have := HOV.out
                    unfold Hid
                    rw [← this, HGE.out, List.append_assoc]
                    rfl
                  · have e1 : cellsE (acc ++ [shiftE G x]) = cellsE acc ++ [.int .i64 (x.f + G), .int .i64 (x.t + G), .string x.s] := by rw [cellsE_append]; rfl
                    unfold Hid
                    rw [e1, List.length_append]
                    exact HO5.out
                case measure => simp [intOf]; omega
          · obtain rfl : q = FA.length := by omega
            have hst := overF_last FA.length FA x (OB.drop (k + 1)) (gsum (FA.take FA.length)) (Nat.le_refl _)
            have hov1 := hov.out
            rw [hst] at hov1
            generalize hGE : gsum (FA.take FA.length) = G at *
            have HGE := Lib.hid hGE
            have HOV := Lib.hid hov1
            obtain ⟨hx1, hx2, hx3⟩ := hrx
            have hn : (FA.drop FA.length).length = 0 := by simp
            have HN := Lib.hid hn
            generalize hNN : (FA.drop FA.length).length = N at *
            subst hn
            clear hst hov1 hov hGE hlenq hNN
            go_wp2_with fail
            go_quiet (fail)
            have hq8 := below_drawn (Below.refl wy.heap.size wy) nq
            have HO8 := Lib.hid (own_below HOY.out hq8)
            have HB8 := Lib.hid (below_drawn HB3Y.out nq)
            have i4 := below_cells' hq8 e0
            have i5 := below_cells' hq8 e1
            have i6 := below_cells' hq8 e2
            clear hq8 HOY HB3Y e0 e1 e2
            generalize wy.drewN nq = w8 at *
            go_wp2_with fail
            go_quiet (fail)
            have hq9 := below_drawn (Below.refl w8.heap.size w8) nq
            have d4 := below_cells' hq9 i4
            have d5 := below_cells' hq9 i5
            have d6 := below_cells' hq9 i6
            have HOW := Lib.hid (own_below HO8.out hq9)
            have HBW := Lib.hid (below_drawn HB8.out nq)
            clear hq9 i4 i5 i6 HO8 HB8
            generalize w8.drewN nq = wu at *
            have hbsw := HBW.out.size
            have HNW := Lib.hid (World.news_of_block (cs := #[.int .i64 (x.f + G), .int .i64 (x.t + G), .string x.s]) (t := 46) (fr := (0, 0)) (heap_alloc_new wu (.cells #[.int .i64 (x.f + G), .int .i64 (x.t + G), .string x.s] 46)))
            go_wp2_with (at_builtin; refine wpList_append_own _ rfl (.tmp 63) (.tmp 75) 30 rfl w3.heap.size 46 i0 _ 3 32 Tryd.underlying30 hi hz0 hz1 hz2 rfl (by decide) _ acc.length (cellsE acc) rfl (HOW.out.alloc _) ⟨wu.heap.size, 0, none⟩ 1 1 [.int .i64 (x.f + G), .int .i64 (x.t + G), .string x.s] rfl rfl HNW.out (by simp [Value.oneCell']) (by unfold maxLen; omega) (by omega) (by simp; omega) ?_; intro v' w5 hown' hgr _)
            have HB5 := Lib.hid ((HBW.out.alloc hbsw _).grown hgr (by simp; omega) (fun k e => (HOW.out.lt k e).1))
            have HO5 := Lib.hid hown'
            clear hown' hgr HOW HBW HNW
            go_wp2
            go_roundw
            case rel =>
              refine ⟨k + 1, FA.length, acc ++ [shiftE G x], A', c', by omega, by omega, by go_num, by simp, by simp, by omega, by rw [HGE.out], by rw [List.length_append]; simp; omega, ?_, hEf.out, ?_, HB5.out⟩
              · have := HOV.out
                unfold Hid
                rw [← this, HGE.out, List.append_assoc]
                rfl
              · have e1 : cellsE (acc ++ [shiftE G x]) = cellsE acc ++ [.int .i64 (x.f + G), .int .i64 (x.t + G), .string x.s] := by rw [cellsE_append]; rfl
                unfold Hid
                rw [e1, List.length_append]
                exact HO5.out
            case measure => simp [intOf]; omega
      · obtain rfl : k = OB.length := by omega
        have hov1 := hov.out
        rw [List.drop_eq_nil_of_le (Nat.le_refl _), overF_nil, List.append_nil] at hov1
        obtain ⟨A9, c9, rfl, hA9, k91, k92, hE9⟩ := IsE.of_own rfl hO.out
        rw [hov1] at hE9
        have HT9 := Lib.hid (show (textsL (overF FA OB 0)).length ≤ 140737488355328 by
          have h1 := overF_texts FA OB 0
          have h2 := HTX.out
          have : OB.length * 1000000 ≤ 10000 * 1000000 := Nat.mul_le_mul_right _ hlb2
          omega)
        have hLE : acc.length = (overF FA OB 0).length := by rw [hov1]
        rw [hov1] at k91
        have hj := joined_any A9 c9 (overF FA OB 0) wr (by rw [← hLE]; omega) HT9.out k91 k92 hE9
        rw [← hLE] at hj
        have HJ := Lib.hid hj
        have HBB := Lib.hid (HB3.out.trans (hb.out.mono HB3.out.size))
        clear hj hE9 hA9 hov hov1 hO hEf HGQ HE3 HE2 HRA HRB HTA k91 hLE
        go_wp2_with fail
        refine HJ.out.mono ?_
        rintro e w5 ⟨v5, rfl, ho5, hb5⟩
        have HI5 := Lib.hid (IsE.of_own rfl ho5)
        have HB6 := Lib.hid (HBB.out.trans (hb5.mono HBB.out.size))
        clear ho5 hb5
        go_wp2
        go_ret2
        exact ⟨_, rfl, HI5.out, HB6.out⟩
  · rw [if_neg h0]
    generalize mergF s.size a b = E at *
    have hne : (E != 0) = true := by simp [h0]
    have HM := Lib.hid hm
    clear hm h1 h2 h0 hTa hTb
    go_enter Tryd.func28, Tryd.ntmps28
    go_wp2_with fail
    refine HM.out.mono ?_
    rintro e w1 ⟨v1, rfl, _, hb1⟩
    go_wp2
    go_ret2
    exact ⟨_, rfl, IsE.nil _, hb1⟩

end Go.Proofs.YtgpmodbndngcoaaDoor
