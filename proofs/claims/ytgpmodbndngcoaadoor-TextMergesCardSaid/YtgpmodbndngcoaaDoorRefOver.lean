/- The document's Over. -/
import Derived.Test.YtgpmodbndngcoaaDoorOverW
import Derived.Test.YtgpmodbndngcoaaDoorRefMov
import Derived.Test.YtgpmodbndngcoaaDoorRefMrg
import Derived.Test.YtgpmodbndngcoaaDoorRefJo
import Derived.Test.YtgpmodbndngcoaaDoorRefMa
namespace Go.Proofs.YtgpmodbndngcoaaDoor
open Go.RowKit Go.Maps

theorem refJoined_is (v : Value) (l : List Ed) (w : World) (hl : l.length ≤ 100000) (hT : (textsL l).length ≤ 140737488355328) (h : IsE w v l) :
    Calls Tryd.prog 63 #[v] w fun e w' => ∃ v', e = .returned v' ∧ IsE w' v' (joinF l) ∧ Below w.heap.size w w' := by
  obtain ⟨A, c, rfl, _, _, _, hE⟩ := h
  refine (refJoined_any A c l w hl hT hE).mono ?_
  rintro e w' ⟨v', rfl, ho, hb⟩
  exact ⟨v', rfl, IsE.of_own rfl ho, hb⟩

theorem refOvF_take (A B : List Ed) (k : Nat) (h : k < B.length) : refOvF A (B.take (k + 1)) = refOvF A (B.take k) ++ (if B[k] ∈ A then [] else [shiftE (movedF B[k] A) B[k]]) := by
  unfold refOvF
  rw [List.take_succ_eq_append_getElem h, List.filter_append, List.map_append]
  by_cases g : B[k] ∈ A
  · simp [g]
  · simp [g]

theorem refOvF_length (A B : List Ed) : (refOvF A B).length ≤ B.length := by
  unfold refOvF
  rw [List.length_map]
  exact List.length_filter_le _ _

theorem refOvF_small {A B : List Ed} (h : SmallT B) : SmallT (refOvF A B) := fun x hx => by
  unfold refOvF at hx
  obtain ⟨y, hy, rfl⟩ := List.mem_map.1 hx
  exact h y (List.mem_filter.1 hy).1

set_option maxHeartbeats 8000000 in
set_option maxRecDepth 100000 in
theorem refOver_any (s : ByteArray) (A A2 : Option Addr) (a b : List Ed) (c c2 : Nat) (w : World) (hs : s.size ≤ 140737488355328) (ha : a.length ≤ 10000) (hb : b.length ≤ 10000) (hTa : SmallT a) (hTb : SmallT b) (h1 : IsE w (.slice A a.length c) a) (h2 : IsE w (.slice A2 b.length c2) b) :
    Calls Tryd.prog 29 #[.string s, .slice A a.length c, .slice A2 b.length c2] w fun e w' => ∃ v', e = .returned (.tuple #[v', .int .i64 (mergF s.size a b)]) ∧ IsE w' v' (if mergF s.size a b = 0 then overE a b else []) ∧ Below w.heap.size w w' := by
  have f1 := refTogether_any s A A2 a b c c2 w hs (by omega) (by omega) h1 h2
  by_cases h0 : mergF s.size a b = 0
  · obtain ⟨z1, z2, z3⟩ := mergF_zero h0
    obtain ⟨r1, r2, r3, r4⟩ := fineF_range z1
    obtain ⟨t1, t2, t3, t4⟩ := fineF_range z2
    have hRa : ∀ x ∈ ordF a, rangeOk 200000 x := fun x hx => by
      have := r3 x ((mem_ordF x a).1 hx)
      unfold rangeOk at *
      omega
    have hRb : ∀ x ∈ ordF b, rangeOk 200000 x := fun x hx => by
      have := t3 x ((mem_ordF x b).1 hx)
      unfold rangeOk at *
      omega
    have hTa' := hTa.ord
    have hTb' := hTb.ord
    have hla := length_ordF a
    have hlb := length_ordF b
    rw [if_pos h0, h0]
    rw [h0] at f1
    unfold overE
    rw [refOvF_is z3]
    have ho1 := fun W (hW : Below w.heap.size w W) => refOrdered_is (.slice A a.length c) a W (by omega) (IsE.below h1 hW)
    have ho2 := fun W (hW : Below w.heap.size w W) => refOrdered_is (.slice A2 b.length c2) b W (by omega) (IsE.below h2 hW)
    have hla2 : (ordF a).length ≤ 10000 := by omega
    have hlb2 : (ordF b).length ≤ 10000 := by omega
    generalize ordF a = FA at *
    generalize ordF b = FB at *
    have htx := texts_small (refOvF FA FB) 1000000 (refOvF_small hTb')
    have hrl := refOvF_length FA FB
    have hjo := fun v W => refJoined_is v (refOvF FA FB) W (by omega) (by omega)
    have hbd2 : ∀ x, -2000000000 ≤ movedF x FA ∧ movedF x FA ≤ 10000000000 := fun x => by
      have := movedF_bound x FA hTa' hRa
      omega
    have htk := refOvF_take FA FB
    have htl : ∀ k, (refOvF FA (FB.take k)).length ≤ k := fun k => by
      have := refOvF_length FA (FB.take k)
      rw [List.length_take] at this
      omega
    obtain ⟨i0, hi, hz0, hz1, hz2⟩ := info_parts infoEd
    have F1 := Lib.hid f1
    have HO1 := Lib.hid ho1
    have HO2 := Lib.hid ho2
    have HRA := Lib.hid hRa
    have HRB := Lib.hid hRb
    have HTA := Lib.hid hTa'
    have HTB := Lib.hid hTb'
    have HJO := Lib.hid hjo
    have HBD := Lib.hid hbd2
    have HTK := Lib.hid htk
    have HTL := Lib.hid htl
    clear f1 ho1 ho2 hRa hRb hTa hTb hTa' hTb' h1 h2 z1 z2 z3 r3 r4 t3 t4 hla hlb h0 htx hrl hjo hbd2 htk htl
    go_enter Tryd.func29, Tryd.ntmps29
    go_wp2_with fail
    refine F1.out.mono ?_
    rintro e w1 ⟨rfl, hb1⟩
    have HO1' := Lib.hid (HO1.out _ hb1)
    have HB1 := Lib.hid hb1
    clear hb1 F1 HO1
    go_wp2_with fail
    refine HO1'.out.mono ?_
    rintro e w2 ⟨v2, rfl, hI2, hb2⟩
    have hbb := HB1.out.trans (hb2.mono HB1.out.size)
    have HO2' := Lib.hid (HO2.out _ hbb)
    have HB2 := Lib.hid hbb
    have HI2 := Lib.hid hI2
    clear hb2 hbb hI2 HO2 HO1' HB1
    go_wp2_with fail
    refine HO2'.out.mono ?_
    rintro e w3 ⟨v3, rfl, ⟨A3, c3, rfl, hA3, k31, k32, hE3⟩, hb3⟩
    obtain ⟨A2, c2, rfl, hA2, k21, k22, hE2⟩ := IsE.below HI2.out hb3
    have HB3 := Lib.hid (HB2.out.trans (hb3.mono HB2.out.size))
    have HE2 := Lib.hid hE2
    have HE3 := Lib.hid hE3
    unfold maxLen at k22 k32
    clear hA2 hA3 hE2 hE3 hb3 HO2' HB2 HI2
    go_wp2
    go_loopw [9, 10] (fun vo vi wr => ∃ k : Nat, k ≤ FB.length ∧ vi = .int .i64 k ∧ Hid (wr.ownsRow w3.heap.size 46 3 vo (refOvF FA (FB.take k)).length (cellsE (refOvF FA (FB.take k)))) ∧ Hid (Below w3.heap.size w3 wr)) (fun _ vi _ => FB.length - (intOf vi).toNat)
    case atStart => exact ⟨0, Nat.zero_le _, rfl, World.ownsRow_nil _ _ _ _, Below.refl _ _⟩
    case round =>
      obtain ⟨k, hk, rfl, hO, hb⟩ := hrel
      by_cases hlt : k < FB.length
      · obtain ⟨b, off, rfl, hB, c0, c1, c2'⟩ := (HE3.out.below hb.out).at_ k hlt
        have hsn := HTK.out k hlt
        have hol := HTL.out k
        have hrx := HRB.out _ (List.getElem_mem hlt)
        have htx := HTB.out _ (List.getElem_mem hlt)
        obtain ⟨g1, g2⟩ := HBD.out FB[k]
        unfold rangeOk at hrx
        obtain ⟨hr1, hr2, hr3⟩ := hrx
        have hmv := fun W (hW : Below w3.heap.size w3 W) => moved_any FB[k] A2 c2 FA W hla2 HTA.out HRA.out ⟨hr1, by omega⟩ ((HE2.out.below hW).more hW.size)
        generalize hacc : refOvF FA (FB.take k) = acc at *
        generalize hG : movedF FB[k] FA = G at *
        generalize FB[k] = x at *
        have HSN := Lib.hid hsn
        have HMV := Lib.hid hmv
        have hbs := hb.out.size
        clear hsn hmv hacc hG
        go_wp2
        obtain ⟨wo, rfl⟩ : ∃ wo : World, wo = wr := ⟨_, rfl⟩
        go_loopw [11, 12] (fun vt vq wq => ∃ (q : Nat) (t : Bool), q ≤ FA.length ∧ vq = .int .i64 q ∧ vt = .bool t ∧ Hid (t = decide (x ∈ FA.take q)) ∧ Below wo.heap.size wo wq) (fun _ vq _ => FA.length - (intOf vq).toNat)
        case atStart => exact ⟨0, false, Nat.zero_le _, rfl, rfl, by unfold Hid; simp, Below.refl _ _⟩
        case round =>
          obtain ⟨q, t, hq, rfl, rfl, ht, hbq⟩ := hrel
          have d0 := below_cells' hbq c0
          have d1 := below_cells' hbq c1
          have d2 := below_cells' hbq c2'
          by_cases hql : q < FA.length
          · obtain ⟨b3, off3, rfl, hB3, e0, e1, e2⟩ := ((HE2.out.below hb.out).below (hbq.mono hbs)).at_ q hql
            have hin : (x ∈ FA.take (q + 1)) ↔ (x ∈ FA.take q ∨ FA[q] = x) := by
              rw [List.take_succ_eq_append_getElem hql, List.mem_append, List.mem_singleton]
              exact ⟨fun h => h.imp id Eq.symm, fun h => h.imp id Eq.symm⟩
            generalize FA[q] = y at *
            have HIN := Lib.hid hin
            clear hin c0 c1 c2'
            have i1 : (0 : Int) ≤ (q : Int) := by omega
            have i2 : (q : Int) < (FA.length : Int) := by omega
            have i3 : (0 : Int) ≤ (k : Int) := by omega
            have i4 : (k : Int) < (FB.length : Int) := by omega
            have heq := fun W => run_eqlEd y x W
            cases t
            · by_cases hxy : y = x
              · rw [decide_eq_true hxy] at heq
                have HXY := Lib.hid hxy
                clear hxy
                go_wp2
                go_quiet (fail)
                go_wp2
                go_roundw
                case rel => exact ⟨q + 1, true, by omega, by go_num, rfl, by unfold Hid; exact (decide_eq_true (HIN.out.2 (.inr HXY.out))).symm, below_drawn hbq _⟩
                case measure => simp [intOf]; omega
              · rw [decide_eq_false hxy] at heq
                have HXY := Lib.hid hxy
                clear hxy
                go_wp2
                go_quiet (fail)
                go_wp2
                go_roundw
                case rel => exact ⟨q + 1, false, by omega, by go_num, rfl, by unfold Hid; exact (decide_eq_false (fun g => (HIN.out.1 g).elim (fun g1 => absurd (decide_eq_true g1) (by rw [← ht.out]; simp)) HXY.out)).symm, below_drawn hbq _⟩
                case measure => simp [intOf]; omega
            · go_wp2
              go_quiet (fail)
              go_wp2
              go_roundw
              case rel => exact ⟨q + 1, true, by omega, by go_num, rfl, by unfold Hid; exact (decide_eq_true (HIN.out.2 (.inl (of_decide_eq_true ht.out.symm)))).symm, below_drawn hbq _⟩
              case measure => simp [intOf]; omega
          · obtain rfl : q = FA.length := by omega
            have ht1 := ht.out
            rw [List.take_length] at ht1
            have HO4 := Lib.hid (own_below hO.out hbq)
            have HB4 := Lib.hid (hb.out.trans (hbq.mono hbs))
            have HT := Lib.hid ht1
            have i3 : (0 : Int) ≤ (k : Int) := by omega
            have i4 : (k : Int) < (FB.length : Int) := by omega
            clear ht1 ht hO hb c0 c1 c2'
            cases t
            · have hx : x ∉ FA := fun g => by have := HT.out; rw [decide_eq_true g] at this; cases this
              have hsn2 := HSN.out
              rw [if_neg hx] at hsn2
              have HSN2 := Lib.hid hsn2
              have HMV2 := Lib.hid (HMV.out _ HB4.out)
              clear hx hsn2 HMV HSN
              go_wp2_with fail
              refine HMV2.out.mono ?_
              rintro e w5 ⟨rfl, hb5⟩
              have e0 := below_cells' hb5 d0
              have e1 := below_cells' hb5 d1
              have e2 := below_cells' hb5 d2
              have HO5 := Lib.hid (own_below HO4.out hb5)
              have HB5 := Lib.hid (HB4.out.trans (hb5.mono HB4.out.size))
              have hbs5 := HB5.out.size
              have hlb : b < w5.heap.size := by have := hbq.size; have := hb5.size; omega
              have s1 : IntKind.i64.wrap (x.f + G) = x.f + G := IntWalk.i64_in _ (by omega)
              have s2 : IntKind.i64.wrap (x.t + G) = x.t + G := IntWalk.i64_in _ (by omega)
              have hnb : (w5.alloc (.cells #[.int .i64 (x.f + G), .int .i64 (x.t + G), .string x.s] 46)).heap[w5.heap.size]? = some (.cells #[.int .i64 (x.f + G), .int .i64 (x.t + G), .string x.s] 46) := heap_alloc_new w5 _
              have HNB := Lib.hid hnb
              have hne : ∀ g, Value.ownBlock u9 = some g → w3.heap.size ≤ g := fun g e => (HO5.out.lt g e).1
              have HNE := Lib.hid hne
              clear hnb hne hb5 hbq d0 d1 d2 HO4 HB4 HMV2
              go_wp2_with fail
              go_region_held3 (fun w' => w'.cell? ⟨b, off + k * 3, none⟩ = some (.int .i64 x.f) ∧ w'.cell? ⟨b, off + k * 3 + 1, none⟩ = some (.int .i64 x.t) ∧ w'.cell? ⟨b, off + k * 3 + 2, none⟩ = some (.string x.s))
                (first
                  | go_keep
                  | (go_split_ands
                     refine ⟨?_, ?_, ?_⟩
                     · (rw [hgrow.cell_far _ (by simp; omega) (fun e => absurd (HNE.out _ e.symm) (by simp only; omega))]; assumption)
                     · (rw [hgrow.cell_far _ (by simp; omega) (fun e => absurd (HNE.out _ e.symm) (by simp only; omega))]; assumption)
                     · (rw [hgrow.cell_far _ (by simp; omega) (fun e => absurd (HNE.out _ e.symm) (by simp only; omega))]; assumption)))
                ((refine step_append_lies _ (by rfl) _ _ _ (by rfl) w3.heap.size 46 i0 _ 3 32 Tryd.underlying30 hi hz0 hz1 hz2 rfl (by omega) u9 acc.length (cellsE acc) (by rfl) ((HO5.out.alloc _).drew)
                    ⟨w5.heap.size, 0, none⟩ 1 1 [.int .i64 (x.f + G), .int .i64 (x.t + G), .string x.s] (by rfl) (by rfl) (World.news_of_block (fr := (0, 0)) HNB.out) (by simp [Value.oneCell'])
                    (by omega) (by unfold maxLen; omega) (by omega) (by simp; omega) (w5.heap.size + 1) (by simp) ?_; intro gg cap w4 hown4 hgrow hat hlt4))
              have HO6 := Lib.hid hown4
              have HB6 := Lib.hid ((HB5.out.alloc hbs5 _).drew.grown hgrow (by simp; omega) (fun k e => (HO5.out.lt k e).1))
              clear hown4 hgrow hat HO5 HB5 hbs5 HNB HNE
              go_wp2
              go_roundw
              case rel =>
                refine ⟨k + 1, by omega, by go_num, ?_, HB6.out⟩
                have e : cellsE (refOvF FA (FB.take (k + 1))) = cellsE acc ++ [.int .i64 (x.f + G), .int .i64 (x.t + G), .string x.s] := by
                  rw [HSN2.out, cellsE_append]; rfl
                have e' : (refOvF FA (FB.take (k + 1))).length = acc.length + 1 := by rw [HSN2.out, List.length_append]; rfl
                unfold Hid
                rw [e, e']
                exact HO6.out
              case measure => simp [intOf]; omega
            · have hx : x ∈ FA := of_decide_eq_true HT.out.symm
              have hsn2 := HSN.out
              rw [if_pos hx, List.append_nil] at hsn2
              have HSN2 := Lib.hid hsn2
              clear hx hsn2 HMV HSN
              go_wp2
              go_roundw
              case rel =>
                refine ⟨k + 1, by omega, by go_num, ?_, HB4.out⟩
                unfold Hid
                rw [HSN2.out]
                exact HO4.out
              case measure => simp [intOf]; omega
      · obtain rfl : k = FB.length := by omega
        have hO1 := hO.out
        rw [List.take_length] at hO1
        have HJ := Lib.hid (HJO.out _ _ (IsE.of_own rfl hO1))
        have HB6 := Lib.hid (HB3.out.trans (hb.out.mono HB3.out.size))
        clear hO hO1 HJO
        go_wp2_with fail
        refine HJ.out.mono ?_
        rintro e w7 ⟨v7, rfl, hI7, hb7⟩
        have HI7 := Lib.hid hI7
        have HB7 := Lib.hid (HB6.out.trans (hb7.mono HB6.out.size))
        clear hI7 hb7
        go_wp2
        go_ret2
        exact ⟨_, rfl, HI7.out, HB7.out⟩
  · rw [if_neg h0]
    generalize mergF s.size a b = E at *
    have hne : (E != 0) = true := by simp [h0]
    have F1 := Lib.hid f1
    clear f1 h1 h2 h0
    go_enter Tryd.func29, Tryd.ntmps29
    go_wp2_with fail
    refine F1.out.mono ?_
    rintro e w1 ⟨rfl, hb1⟩
    have HB1 := Lib.hid hb1
    clear hb1
    go_wp2
    go_ret2
    exact ⟨_, rfl, IsE.nil _, HB1.out⟩

end Go.Proofs.YtgpmodbndngcoaaDoor
