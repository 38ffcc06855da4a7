/- The document's Apply and Inverse. -/
import Derived.Test.YtgpmodbndngcoaaDoorRefMade
import Derived.Test.YtgpmodbndngcoaaDoorRefFine
namespace Go.Proofs.YtgpmodbndngcoaaDoor
open Go.RowKit Go.Maps

theorem behind_length {s : ByteArray} {l : List Ed} (h : fineF s.size l = 0) : ((behind s l).size : Int) = s.size + gsum (ordF l) := by
  have h3 := madeF_length s.data.toList (ordF l) 0 (Nat.zero_le _) (by rw [size_toL]; exact chain_fine h)
  have h4 := size_toL (behind s l)
  rw [behind_toL] at h4
  rw [size_toL] at h3
  omega

set_option maxHeartbeats 2000000 in
set_option maxRecDepth 100000 in
theorem refApply_any (s : ByteArray) (v : Value) (l : List Ed) (w : World) (hs : s.size ≤ 140737488355328) (hl : l.length ≤ 10000) (hT : SmallT l) (h : IsE w v l) :
    Calls Tryd.prog 20 #[.string s, v] w fun e w' => e = .returned (.tuple #[.string (if applF s.size l = 0 then behind s l else ⟨#[]⟩), .int .i64 (applF s.size l)]) ∧ Below w.heap.size w w' := by
  have hf := refFine_any s v l w hs (by omega) h
  by_cases h0 : fineF s.size l = 0
  · have hbl := behind_length h0
    have hap : applF s.size l = if 200000 < (behind s l).size then 2 else 0 := by
      unfold applF
      rw [if_neg (fun g => g h0)]
      by_cases g : 200000 < (s.size : Int) + gsum (ordF l)
      · rw [if_pos g, if_pos (by omega)]
      · rw [if_neg g, if_neg (by omega)]
    obtain ⟨A, c, rfl, hA, h1, h2, hE⟩ := h
    have hmd := fun W (hb : Below w.heap.size w W) => refMade_any s A c l W hl hT h0 ((hE.below hb).more hb.size)
    rw [h0] at hf
    rw [hap]
    have hgb : (behind s l).size ≤ 100000000000 := by
      obtain ⟨r1, r2, r3, r4⟩ := fineF_range h0
      have := gsum_bound s.size r1 (ordF l) hT.ord (fun x hx => r3 x ((mem_ordF x l).1 hx))
      have := length_ordF l
      omega
    generalize behind s l = t at *
    have HF := Lib.hid hf
    have HMD := Lib.hid hmd
    clear hf hmd hE hA hap hbl h0 hT
    by_cases g : 200000 < t.size
    · have g' : (200000 : Int) < t.size := by omega
      rw [if_pos g, if_neg (by decide)]
      clear g
      go_enter Tryd.func20, Tryd.ntmps20
      go_wp2_with fail
      refine HF.out.mono ?_
      rintro e w1 ⟨rfl, hb1⟩
      have HM := Lib.hid (HMD.out _ hb1)
      have HB1 := Lib.hid hb1
      clear hb1
      go_wp2_with fail
      refine HM.out.mono ?_
      rintro e w2 ⟨v', rfl, _, hb2⟩
      have HB2 := Lib.hid (HB1.out.trans (hb2.mono HB1.out.size))
      clear hb2
      go_wp2
      go_ret2
      exact ⟨rfl, HB2.out⟩
    · have g' : ¬ (200000 : Int) < t.size := by omega
      rw [if_neg g, if_pos rfl]
      clear g
      go_enter Tryd.func20, Tryd.ntmps20
      go_wp2_with fail
      refine HF.out.mono ?_
      rintro e w1 ⟨rfl, hb1⟩
      have HM := Lib.hid (HMD.out _ hb1)
      have HB1 := Lib.hid hb1
      clear hb1
      go_wp2_with fail
      refine HM.out.mono ?_
      rintro e w2 ⟨v', rfl, _, hb2⟩
      have HB2 := Lib.hid (HB1.out.trans (hb2.mono HB1.out.size))
      clear hb2
      go_wp2
      go_ret2
      exact ⟨rfl, HB2.out⟩
  · have hap : applF s.size l = fineF s.size l := by unfold applF; rw [if_pos h0]
    rw [hap, if_neg h0]
    generalize fineF s.size l = E at *
    have HF := Lib.hid hf
    have hne : (E != 0) = true := by simp [h0]
    clear hf hap h hT h0
    go_enter Tryd.func20, Tryd.ntmps20
    go_wp2_with fail
    refine HF.out.mono ?_
    rintro e w1 ⟨rfl, hb1⟩
    go_wp2
    go_ret2
    exact ⟨rfl, hb1⟩

set_option maxHeartbeats 2000000 in
set_option maxRecDepth 100000 in
theorem refInverse_any (s : ByteArray) (v : Value) (l : List Ed) (w : World) (hs : s.size ≤ 140737488355328) (hl : l.length ≤ 10000) (hT : SmallT l) (h : IsE w v l) :
    Calls Tryd.prog 24 #[.string s, v] w fun e w' => ∃ v', e = .returned (.tuple #[v', .int .i64 (applF s.size l)]) ∧ IsE w' v' (if applF s.size l = 0 then backF s l else []) ∧ Below w.heap.size w w' := by
  have ha := refApply_any s v l w hs hl hT h
  by_cases h0 : applF s.size l = 0
  · obtain ⟨z1, z2⟩ := applF_zero h0
    obtain ⟨r1, r2, r3, r4⟩ := fineF_range z1
    have hlo := length_ordF l
    obtain ⟨A, c, rfl, hA, h1, h2, hE⟩ := h
    have hmd := fun W (hb : Below w.heap.size w W) => refMade_any s A c l W hl hT z1 ((hE.below hb).more hb.size)
    rw [if_pos h0, h0] at ha
    rw [if_pos h0, h0]
    unfold backF
    have hit := invF_texts s (ordF l) 0
    have hit2 : (textsL (invF s 0 (ordF l))).length ≤ 140737488355328 := by
      have : (ordF l).length * s.size ≤ 10000 * 200000 := Nat.mul_le_mul (by omega) r1
      omega
    have hil := invF_length s (ordF l) 0
    have hil2 : (invF s 0 (ordF l)).length ≤ 100000 := by omega
    rw [← hil] at hmd
    generalize invF s 0 (ordF l) = B at *
    generalize behind s l = t at *
    have HA := Lib.hid ha
    have HMD := Lib.hid hmd
    clear ha hmd hE hA h0 z1 z2 r3 r4 hT hlo hit hil
    go_enter Tryd.func24, Tryd.ntmps24
    go_wp2_with fail
    refine HA.out.mono ?_
    rintro e w1 ⟨rfl, hb1⟩
    have HM := Lib.hid (HMD.out _ hb1)
    have HB1 := Lib.hid hb1
    clear hb1
    go_wp2_with fail
    refine HM.out.mono ?_
    rintro e w2 ⟨v', rfl, ho, hb2⟩
    obtain ⟨A2, c2, rfl, hA2, k1, k2, hE2⟩ := IsE.of_own rfl ho
    have HB2 := Lib.hid (HB1.out.trans (hb2.mono HB1.out.size))
    have hj := refJoined_any A2 c2 B w2 hil2 hit2 hE2
    have HJ := Lib.hid hj
    clear hb2 hj ho hA2 hE2
    go_wp2_with fail
    refine HJ.out.mono ?_
    rintro e w3 ⟨v3, rfl, ho3, hb3⟩
    have HI3 := Lib.hid (IsE.of_own rfl ho3)
    have HB3 := Lib.hid (HB2.out.trans (hb3.mono HB2.out.size))
    clear hb3 ho3
    go_wp2
    go_ret2
    exact ⟨_, rfl, HI3.out, HB3.out⟩
  · rw [if_neg h0] at ha
    rw [if_neg h0]
    generalize applF s.size l = E at *
    have HA := Lib.hid ha
    have hne : (E != 0) = true := by simp [h0]
    clear ha h hT h0
    go_enter Tryd.func24, Tryd.ntmps24
    go_wp2_with fail
    refine HA.out.mono ?_
    rintro e w1 ⟨rfl, hb1⟩
    go_wp2
    go_ret2
    exact ⟨_, rfl, IsE.nil _, hb1⟩

end Go.Proofs.YtgpmodbndngcoaaDoor
