/- Inverse: the edits of the new text that make the old one. -/
import Derived.Test.YtgpmodbndngcoaaDoorApp
import Derived.Test.YtgpmodbndngcoaaDoorJoin
import Derived.Deep.RegionHeld3
import Derived.IntWalk
namespace Go.Proofs.YtgpmodbndngcoaaDoor
open Go.RowKit Go.Maps

theorem invF_snoc (s : ByteArray) : ∀ (l : List Ed) (m : Int) (k : Nat) (h : k < l.length), invF s m (l.take (k + 1)) = invF s m (l.take k) ++ [⟨l[k].f + (m + gsum (l.take k)), l[k].f + (m + gsum (l.take k)) + l[k].s.size, s.extract l[k].f.toNat l[k].t.toNat⟩]
  | [], _, _, h => by simp at h
  | x :: l, m, 0, _ => by simp [invF, gsum]
  | x :: l, m, k + 1, h => by
    have ih := invF_snoc s l (m + (x.s.size - (x.t - x.f))) k (by simpa using h)
    simp only [List.take_succ_cons, invF, List.getElem_cons_succ, gsum, List.cons_append] at ih ⊢
    rw [ih, show m + (x.s.size - (x.t - x.f)) + gsum (l.take k) = m + (x.s.size - (x.t - x.f) + gsum (l.take k)) by omega]

theorem invF_texts (s : ByteArray) : ∀ (l : List Ed) (m : Int), (textsL (invF s m l)).length ≤ l.length * s.size
  | [], _ => by simp [invF, textsL]
  | x :: l, m => by
    have ih := invF_texts s l (m + (x.s.size - (x.t - x.f)))
    have := extract_size s x.f.toNat x.t.toNat
    rw [invF, textsL_cons, List.length_append, List.length_cons, Nat.succ_mul, size_toL]
    simp only
    omega

set_option maxHeartbeats 4000000 in
set_option maxRecDepth 100000 in
theorem inverse_any (s : ByteArray) (v : Value) (l : List Ed) (w : World) (hs : s.size ≤ 140737488355328) (hl : l.length ≤ 1000000) (hT : SmallT l) (h : IsE w v l) :
    Calls Tryd.prog 23 #[.string s, v] w fun e w' => ∃ v', e = .returned (.tuple #[v', .int .i64 (applF s.size l)]) ∧ IsE w' v' (if applF s.size l = 0 then backF s l else []) ∧ Below w.heap.size w w' := by
  have ha := applicable_any s v l w hs hl hT h
  by_cases h0 : applF s.size l = 0
  · obtain ⟨z1, z2⟩ := applF_zero h0
    obtain ⟨r1, r2, r3, r4⟩ := fineF_range z1
    have hlo := length_ordF l
    have hR : ∀ x ∈ ordF l, rangeOk s.size x := fun x hx => r3 x ((mem_ordF x l).1 hx)
    have hT' := hT.ord
    obtain ⟨i0, hi, hz0, hz1, hz2⟩ := info_parts infoEd
    rw [if_pos h0, h0]
    rw [h0, show applL s.size l = ordF l by unfold applL; rw [if_pos h0]] at ha
    unfold backF
    have hlo2 : (ordF l).length ≤ 10000 := by omega
    generalize ordF l = L at *
    have hit := invF_texts s L 0
    have hit2 : (textsL (invF s 0 L)).length ≤ 140737488355328 := by
      have : L.length * s.size ≤ 10000 * 200000 := Nat.mul_le_mul hlo2 r1
      omega
    have hil := invF_length s L 0
    have HIT := Lib.hid hit2
    have HIL := Lib.hid hil
    have HA := Lib.hid ha
    have HR := Lib.hid hR
    have HT := Lib.hid hT'
    clear ha h h0 z1 z2 r3 r4 hR hT hT' hlo hit hit2 hil
    go_enter Tryd.func23, Tryd.ntmps23
    go_wp2_with fail
    refine HA.out.mono ?_
    rintro e w1 ⟨v', rfl, ⟨A, c, rfl, hA, g1, g2, hE⟩, hb1⟩
    have HE := Lib.hid hE
    clear hA g2 HA hE
    go_wp2_with (at_make; go_loud (refine wpList_make_own _ rfl _ _ 30 rfl w1.heap.size 46 i0 (.agg #[.int .i64 0, .int .i64 0, .string ⟨#[]⟩]) 3 Tryd.underlying30 hi hz0 hz1 .i64 .i64 _ L.length rfl rfl (by omega) (by rw [hz2]; omega) (by unfold maxLen; omega) (Nat.le_refl _) ?_); intro w2 hown hg1)
    have HO2 := Lib.hid hown
    have HB2 := Lib.hid ((Below.refl w1.heap.size w1).grown hg1 (Nat.le_refl _) (by simp))
    have hgs := fun k => gsum_bound s.size r1 (L.take k) (fun x hx => HT.out x (List.mem_of_mem_take hx)) (fun x hx => HR.out x (List.mem_of_mem_take hx))
    have HGS := Lib.hid hgs
    clear hown hg1 hgs
    go_loopw [8, 9, 27] (fun vb vm vi wr => ∃ k : Nat, k ≤ L.length ∧ vi = .int .i64 k ∧ vm = .int .i64 (gsum (L.take k)) ∧ Hid (wr.ownsRow w1.heap.size 46 3 vb k (cellsE (invF s 0 (L.take k)))) ∧ Below w1.heap.size w1 wr) (fun _ _ i _ => L.length - (intOf i).toNat)
    case atStart => exact ⟨0, Nat.zero_le _, rfl, rfl, HO2.out, HB2.out⟩
    case round =>
      obtain ⟨k, hk, rfl, rfl, hO, hb⟩ := hrel
      have hbd := HGS.out k
      have htk : (L.take k).length ≤ 10000 := by rw [List.length_take]; omega
      have hb3 : -2000000000 ≤ gsum (L.take k) ∧ gsum (L.take k) ≤ 10000000000 := by omega
      clear hbd htk
      by_cases hlt : k < L.length
      · obtain ⟨b, off, rfl, hB, c0, c1, c2⟩ := (HE.out.below hb).at_ k hlt
        have hmem : L[k] ∈ L := List.getElem_mem hlt
        have q1 := HR.out _ hmem
        have q2 := HT.out _ hmem
        unfold rangeOk at q1
        obtain ⟨q3, q4, q5⟩ := q1
        have hst := gsum_take L k hlt
        have hsn := invF_snoc s L 0 k hlt
        rw [Int.zero_add] at hsn
        generalize L[k].f = f at *
        generalize L[k].t = t at *
        generalize L[k].s = x at *
        generalize gsum (L.take k) = G at *
        obtain ⟨G1, G2⟩ := hb3
        have hy := extract_size s f.toNat t.toNat
        have HS := Lib.hid hst
        have HSN := Lib.hid hsn
        have hg := fun W => Lib.hid (growth_any f t x W (by omega) q3 q4 (by omega))
        have HG := Lib.hid hg
        have hL := hO.out.lt
        have HBB := Lib.hid hb
        have hsz := hb.size
        have hnb : ((wr.alloc (.cells #[.int .i64 f, .int .i64 t, .string x] 46)).alloc (.cells #[.int .i64 (f + G), .int .i64 (f + G + x.size), .string (s.extract f.toNat t.toNat)] 46)).heap[wr.heap.size + 1]? = some (.cells #[.int .i64 (f + G), .int .i64 (f + G + x.size), .string (s.extract f.toNat t.toNat)] 46) := by
          have := heap_alloc_new (wr.alloc (.cells #[.int .i64 f, .int .i64 t, .string x] 46)) (.cells #[.int .i64 (f + G), .int .i64 (f + G + x.size), .string (s.extract f.toNat t.toNat)] 46); simpa using this
        have HNB := Lib.hid hnb
        have hxb := heap_alloc_new wr (.cells #[.int .i64 f, .int .i64 t, .string x] 46)
        have p1 : (0 : Int) ≤ f := q3
        have p2 : f ≤ t := q4
        have p3 : t ≤ (s.size : Int) := q5
        have s1 : IntKind.i64.wrap (f + G + x.size) = f + G + x.size := IntWalk.i64_in _ (by omega)
        clear hst hsn hg hmem hb hnb
        have hne : ∀ g, Value.ownBlock u8 = some g → g < wr.heap.size := fun g e => (hO.out.lt g e).2
        have HNE := Lib.hid hne
        clear hne
        go_wp2_with fail
        go_region_held3 (fun w' => w'.cell? ⟨wr.heap.size, 0, none⟩ = some (.int .i64 f) ∧ w'.cell? ⟨wr.heap.size, 1, none⟩ = some (.int .i64 t) ∧ w'.cell? ⟨wr.heap.size, 2, none⟩ = some (.string x))
          (first
            | go_keep
            | (go_split_ands
               refine ⟨?_, ?_, ?_⟩
               · (rw [hgrow.cell_far _ (by simp; omega) (fun e => absurd (HNE.out _ e.symm) (by simp))]; assumption)
               · (rw [hgrow.cell_far _ (by simp; omega) (fun e => absurd (HNE.out _ e.symm) (by simp))]; assumption)
               · (rw [hgrow.cell_far _ (by simp; omega) (fun e => absurd (HNE.out _ e.symm) (by simp))]; assumption)))
          ((refine step_append_lies _ (by rfl) _ _ _ (by rfl) w1.heap.size 46 i0 _ 3 32 Tryd.underlying30 hi hz0 hz1 hz2 rfl (by omega) u8 k (cellsE (invF s 0 (L.take k))) (by rfl) (((hO.out.alloc _).alloc _).drew)
              ⟨wr.heap.size + 1, 0, none⟩ 1 1 [.int .i64 (f + G), .int .i64 (f + G + x.size), .string (s.extract f.toNat t.toNat)] (by rfl) (by rfl) (World.news_of_block (fr := (0, 0)) HNB.out) (by simp [Value.oneCell'])
              (by omega) (by unfold maxLen; omega) (by omega) (by simp; omega) (wr.heap.size + 2) (by simp) ?_; intro gg cap w3 hown3 hgrow hat hlt3))
        have HOW := Lib.hid hown3
        have hbn := ((HBB.out.alloc hsz _).alloc (by simp; omega) _).drew.grown hgrow (by simp; omega) (fun k e => (hO.out.lt k e).1)
        have HBN := Lib.hid hbn
        have hsz3 := hbn.size
        clear hown3 hgrow hat hO HBB hbn HNB
        go_wp2_with fail
        refine (HG.out _).out.mono ?_
        rintro e w4 ⟨rfl, hb4⟩
        have HO4 := Lib.hid (own_below HOW.out hb4)
        have HB4 := Lib.hid (HBN.out.trans (hb4.mono hsz3))
        clear hb4 HOW HBN
        go_wp2
        go_roundw
        case rel =>
          refine ⟨k + 1, by omega, by go_num, by rw [HS.out], ?_, HB4.out⟩
          have e : cellsE (invF s 0 (L.take (k + 1))) = cellsE (invF s 0 (L.take k)) ++ [.int .i64 (f + G), .int .i64 (f + G + x.size), .string (s.extract f.toNat t.toNat)] := by rw [HSN.out, cellsE_append]; rfl
          unfold Hid
          rw [e]
          exact HO4.out
        case measure => simp [intOf]; omega
      · obtain rfl : k = L.length := by omega
        rw [List.take_length] at *
        have hI := IsE.of_own (l := invF s 0 L) HIL.out.symm hO.out
        obtain ⟨A2, c2, rfl, hA2, k1, k2, hE2⟩ := hI
        rw [HIL.out] at k1
        have hj := joined_any A2 c2 (invF s 0 L) wr (by rw [HIL.out]; omega) HIT.out (by rw [HIL.out]; exact k1) k2 hE2
        have HJ := Lib.hid hj
        have HB5 := Lib.hid (hb1.trans (hb.mono hb1.size))
        have HB6 := Lib.hid hb1.size
        clear hA2 hE2 hj hO hb hb1 HGS HE HR HT
        rw [HIL.out] at *
        go_wp2_with fail
        refine HJ.out.mono ?_
        rintro e w5 ⟨v5, rfl, ho5, hb5⟩
        have hI5 := Lib.hid (IsE.of_own rfl ho5)
        have HB7 := Lib.hid (HB5.out.trans (hb5.mono HB5.out.size))
        clear ho5 hb5
        go_wp2
        go_ret2
        exact ⟨_, rfl, hI5.out, HB7.out⟩
  · rw [if_neg h0]
    have hal : applL s.size l = [] := by unfold applL; rw [if_neg h0]
    rw [hal] at ha
    generalize applF s.size l = E at *
    have HA := Lib.hid ha
    have hne : (E != 0) = true := by simp [h0]
    clear ha h hT hal
    go_enter Tryd.func23, Tryd.ntmps23
    go_wp2_with fail
    refine HA.out.mono ?_
    rintro e w1 ⟨v', rfl, hI, hb1⟩
    go_wp2
    go_ret2
    exact ⟨_, rfl, IsE.nil _, hb1⟩

end Go.Proofs.YtgpmodbndngcoaaDoor
