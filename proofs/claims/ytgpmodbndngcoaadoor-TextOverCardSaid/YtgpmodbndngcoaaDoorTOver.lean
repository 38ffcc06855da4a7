/- TextOver: the walk of the law. -/
import Derived.Test.YtgpmodbndngcoaaDoorOverW
import Derived.Test.YtgpmodbndngcoaaDoorTBack
namespace Go.Proofs.YtgpmodbndngcoaaDoor
open Go.RowKit Go.Maps

theorem ordF_idem (l : List Ed) : ordF (ordF l) = ordF l := (ordF_of_sorted (sorted_ordF l) (r := ordF l) (fun _ => Iff.rfl)).symm

theorem fineF_ord {n : Nat} {l : List Ed} (h : fineF n l = 0) : fineF n (ordF l) = 0 := by
  obtain ⟨r1, r2, r3, r4⟩ := fineF_range h
  have := length_ordF l
  unfold fineF
  rw [if_neg (by omega), if_neg (fun g => g (fun x hx => r3 x ((mem_ordF x l).1 hx))), ordF_idem, r4]
  rfl

theorem applF_ord {n : Nat} {l : List Ed} (h : fineF n l = 0) : applF n (ordF l) = applF n l := by
  unfold applF
  rw [fineF_ord h, h, ordF_idem]

theorem behind_ord (s : ByteArray) (l : List Ed) : behind s (ordF l) = behind s l := by unfold behind; rw [ordF_idem]

theorem behind_swap (s : ByteArray) (a b : List Ed) : behind s (b ++ a) = behind s (a ++ b) := by
  unfold behind; rw [ordF_congr (a := b ++ a) (b := a ++ b) (fun x => by simp [or_comm])]

theorem fineF_swap (n : Nat) (a b : List Ed) : fineF n (b ++ a) = fineF n (a ++ b) := fineF_congr (by simp [Nat.add_comm]) (fun x => by simp [or_comm])
theorem applF_swap (n : Nat) (a b : List Ed) : applF n (b ++ a) = applF n (a ++ b) := applF_congr (by simp [Nat.add_comm]) (fun x => by simp [or_comm])

theorem mergF_swap {n : Nat} {a b : List Ed} (h : mergF n a b = 0) : mergF n b a = 0 := by
  obtain ⟨h1, h2, h3⟩ := mergF_zero h
  unfold mergF
  rw [if_neg (fun g => g h2), if_neg (fun g => g h1), fineF_swap, h3]

theorem over_ok' (s : ByteArray) (va vb : Value) (a b : List Ed) (w : World) (hs : s.size ≤ 140737488355328) (ha : a.length ≤ 10000) (hb : b.length ≤ 10000) (hTa : SmallT a) (hTb : SmallT b) (h0 : mergF s.size a b = 0) (h1 : IsE w va a) (h2 : IsE w vb b) :
    Calls Tryd.prog 28 #[.string s, va, vb] w fun e w' => ∃ v', e = .returned (.tuple #[v', .int .i64 0]) ∧ IsE w' v' (overE a b) ∧ Below w.heap.size w w' := by
  have := over_any s va vb a b w hs ha hb hTa hTb h1 h2
  rw [if_pos h0, h0] at this
  exact this

theorem merge_ok (s : ByteArray) (va vb : Value) (a b : List Ed) (w : World) (hs : s.size ≤ 140737488355328) (ha : a.length ≤ 100000) (hb : b.length ≤ 100000) (h0 : mergF s.size a b = 0) (h1 : IsE w va a) (h2 : IsE w vb b) :
    Calls Tryd.prog 26 #[.string s, va, vb] w fun e w' => ∃ v', e = .returned (.tuple #[v', .int .i64 0]) ∧ IsE w' v' (ordF (a ++ b)) ∧ Below w.heap.size w w' := by
  have := merge_any s va vb a b w hs ha hb h1 h2
  unfold mergL at this
  rw [if_pos h0, h0] at this
  exact this

set_option maxHeartbeats 4000000 in
set_option maxRecDepth 100000 in
theorem textOver_any (haw : ∀ W, Tab W → Calls Tryd.prog 17 #[] W fun e w' => e = .returned (.bool true) ∧ Below W.heap.size W w')
    (s : ByteArray) (A A2 : Option Addr) (a b : List Ed) (c c2 : Nat) (w : World) (ht : Tab w)
    (hs : s.size ≤ 140737488355328) (ha : a.length ≤ 140737488355328) (hb : b.length ≤ 140737488355328) (hxa : ∀ x ∈ a, x.s.size ≤ 140737488355328) (hxb : ∀ x ∈ b, x.s.size ≤ 140737488355328) (hEa : IsE w (.slice A a.length c) a) (hEb : IsE w (.slice A2 b.length c2) b) :
    Calls Tryd.prog 8 #[.string s, .slice A a.length c, .slice A2 b.length c2] w fun e w' => e = .returned (.bool true) ∧ Below w.heap.size w w' := by
  have hEla : ESl w w.heap.size A a := by obtain ⟨A', c', e, _, _, _, h⟩ := hEa; cases e; exact h
  have hElb : ESl w w.heap.size A2 b := by obtain ⟨A', c', e, _, _, _, h⟩ := hEb; cases e; exact h
  have V1 := heavy_any A c s a w hs ha hxa hEla
  have V2 := fun W (hW : Below w.heap.size w W) => heavy_any A2 c2 s b W hs hb hxb ((hElb.below hW).more hW.size)
  have HT := Lib.hid ht
  have HAW := Lib.hid haw
  clear ht haw
  by_cases hqa : heavyF s a = true
  · rw [hqa] at V1
    have HV1 := Lib.hid V1
    clear V1 V2 hqa hEla hElb hEa hEb hxa hxb
    go_enter Tryd.func8, Tryd.ntmps8
    go_wp2_with fail
    refine (HV1.out).mono ?_
    rintro e w1 ⟨rfl, hb1⟩
    have HB1 := Lib.hid hb1
    clear hb1
    go_wp2
    go_ret
    exact ⟨rfl, HB1.out⟩
  · have hqa' : heavyF s a = false := by simpa using hqa
    obtain ⟨n1, n2, n3⟩ := heavyF_no hqa'
    rw [hqa'] at V1
    have HV1 := Lib.hid V1
    by_cases hqb : heavyF s b = true
    · simp only [hqb] at V2
      have HV2 := Lib.hid V2
      clear V1 V2 hqa hqa' hqb hEla hElb hEa hEb hxa hxb n1 n2 n3
      go_enter Tryd.func8, Tryd.ntmps8
      go_wp2_with fail
      refine (HV1.out).mono ?_
      rintro e w1 ⟨rfl, hb1⟩
      have HB1 := Lib.hid hb1
      clear hb1
      go_wp2_with fail
      refine (HV2.out _ HB1.out).mono ?_
      rintro e w2 ⟨rfl, hb2⟩
      have HB2 := Lib.hid (chainB HB1.out hb2)
      clear hb2
      go_wp2
      go_ret
      exact ⟨rfl, HB2.out⟩
    · have hqb' : heavyF s b = false := by simpa using hqb
      obtain ⟨m1, m2, m3⟩ := heavyF_no hqb'
      simp only [hqb'] at V2
      have HV2 := Lib.hid V2
      clear V1 V2 hqa hqa' hqb hqb'
      by_cases h40 : 40 < a.length
      · have g40 : (40 : Int) < a.length := by omega
        clear hEla hElb hEa hEb hxa hxb n1 n2 n3 m1 m2 m3 h40
        go_enter Tryd.func8, Tryd.ntmps8
        go_wp2_with fail
        refine (HV1.out).mono ?_
        rintro e w1 ⟨rfl, hb1⟩
        have HB1 := Lib.hid hb1
        clear hb1
        go_wp2_with fail
        refine (HV2.out _ HB1.out).mono ?_
        rintro e w2 ⟨rfl, hb2⟩
        have HB2 := Lib.hid (chainB HB1.out hb2)
        clear hb2
        go_wp2
        go_ret
        exact ⟨rfl, HB2.out⟩
      · have g40 : ¬ (40 : Int) < a.length := by omega
        by_cases h41 : 40 < b.length
        · have g41 : (40 : Int) < b.length := by omega
          clear hEla hElb hEa hEb hxa hxb n1 n2 n3 m1 m2 m3 h40 h41
          go_enter Tryd.func8, Tryd.ntmps8
          go_wp2_with fail
          refine (HV1.out).mono ?_
          rintro e w1 ⟨rfl, hb1⟩
          have HB1 := Lib.hid hb1
          clear hb1
          go_wp2_with fail
          refine (HV2.out _ HB1.out).mono ?_
          rintro e w2 ⟨rfl, hb2⟩
          have HB2 := Lib.hid (chainB HB1.out hb2)
          clear hb2
          go_wp2
          go_ret
          exact ⟨rfl, HB2.out⟩
        · have g41 : ¬ (40 : Int) < b.length := by omega
          have hTa : SmallT a := fun x hx' => by have := n2 x hx'; omega
          have hTb : SmallT b := fun x hx' => by have := m2 x hx'; omega
          have HEa := Lib.hid hEa
          have HEb := Lib.hid hEb
          have HM := Lib.hid (fun W (hW : Below w.heap.size w W) => merge_any s (.slice A a.length c) (.slice A2 b.length c2) a b W (by omega) (by omega) (by omega) (IsE.below hEa hW) (IsE.below hEb hW))
          have hal : a.length ≤ 40 := by omega
          have hbl : b.length ≤ 40 := by omega
          clear hEla hElb hxa hxb n2 n3 m2 m3 h40 h41 ha hb
          by_cases h0 : mergF s.size a b = 0
          · obtain ⟨z1, z2, z3⟩ := mergF_zero h0
            have HM1 := Lib.hid (fun W (hW : Below w.heap.size w W) => merge_ok s (.slice A a.length c) (.slice A2 b.length c2) a b W (by omega) (by omega) (by omega) h0 (IsE.below hEa hW) (IsE.below hEb hW))
            have hTab : SmallT (ordF (a ++ b)) := fun x hx' => by
              have := (mem_ordF x _).1 hx'
              rcases List.mem_append.1 this with g | g
              · exact hTa x g
              · exact hTb x g
            have hlab : (ordF (a ++ b)).length ≤ 80 := by have := length_ordF (a ++ b); rw [List.length_append] at this; omega
            have hap := applF_ord z3
            by_cases hab : applF s.size (a ++ b) = 0
            · have HP := Lib.hid (fun v W => apply_ok s v (ordF (a ++ b)) W (by omega) (by omega) hTab (by rw [hap]; exact hab))
              rw [behind_ord] at HP
              have hba : applF s.size (b ++ a) = 0 := by rw [applF_swap]; exact hab
              by_cases hfa : applF s.size a = 0
              · by_cases hfb : applF s.size b = 0
                · skip
                  obtain ⟨o1, o2, o3, o4⟩ := over_ok hfa hab
                  have HX := Lib.hid (fun W (hW : Below w.heap.size w W) => apply_ok s (.slice A a.length c) a W (by omega) (by omega) hTa hfa (IsE.below hEa hW))
                  have HO1 := Lib.hid (fun W (hW : Below w.heap.size w W) => over_ok' s (.slice A a.length c) (.slice A2 b.length c2) a b W (by omega) (by omega) (by omega) hTa hTb h0 (IsE.below hEa hW) (IsE.below hEb hW))
                  have hbs1 := behind_size hfa
                  have HQ1 := Lib.hid (fun v W => apply_ok (behind s a) v (overE a b) W (by omega) (by omega) (fun x hx' => by have := o4 x hx'; omega) o1)
                  rw [o2] at HQ1
                  obtain ⟨p1, p2, p3, p4⟩ := over_ok hfb hba
                  have HY := Lib.hid (fun W (hW : Below w.heap.size w W) => apply_ok s (.slice A2 b.length c2) b W (by omega) (by omega) hTb hfb (IsE.below hEb hW))
                  have HO2 := Lib.hid (fun W (hW : Below w.heap.size w W) => over_ok' s (.slice A2 b.length c2) (.slice A a.length c) b a W (by omega) (by omega) (by omega) hTb hTa (mergF_swap h0) (IsE.below hEb hW) (IsE.below hEa hW))
                  have hbs2 := behind_size hfb
                  have HQ2 := Lib.hid (fun v W => apply_ok (behind s b) v (overE b a) W (by omega) (by omega) (fun x hx' => by have := p4 x hx'; omega) p1)
                  rw [p2, behind_swap] at HQ2
                  generalize behind s (a ++ b) = t at *
                  generalize behind s a = ta at *
                  generalize overE a b = oa at *
                  generalize behind s b = tb at *
                  generalize overE b a = ob at *
                  generalize ordF (a ++ b) = M at *
                  clear hap hab hba hlab hTab z1 z2 z3 h0 hTa hTb hEa hEb HM hfa hfb o1 o2 o3 o4 hbs1 p1 p2 p3 p4 hbs2
                  go_enter Tryd.func8, Tryd.ntmps8
                  go_wp2_with fail
                  refine (HV1.out).mono ?_
                  rintro e w1 ⟨rfl, hb1⟩
                  have HB1 := Lib.hid hb1
                  clear hb1
                  go_wp2_with fail
                  refine (HV2.out _ HB1.out).mono ?_
                  rintro e w2 ⟨rfl, hb2⟩
                  have HB2 := Lib.hid (chainB HB1.out hb2)
                  clear hb2
                  go_wp2_with fail
                  refine (HM1.out _ HB2.out).mono ?_
                  rintro e w3 ⟨vm, rfl, hIm, hb3⟩
                  have HB3 := Lib.hid (chainB HB2.out hb3)
                  have HIm := Lib.hid hIm
                  clear hIm
                  clear hb3
                  go_wp2_with fail
                  refine (HP.out _ _ HIm.out).mono ?_
                  rintro e w4 ⟨rfl, hb4⟩
                  have HB4 := Lib.hid (chainB HB3.out hb4)
                  clear hb4
                  go_wp2_with fail
                  refine (HX.out _ HB4.out).mono ?_
                  rintro e w5 ⟨rfl, hb5⟩
                  have HB5 := Lib.hid (chainB HB4.out hb5)
                  clear hb5
                  go_wp2_with fail
                  refine (HY.out _ HB5.out).mono ?_
                  rintro e w6 ⟨rfl, hb6⟩
                  have HB6 := Lib.hid (chainB HB5.out hb6)
                  clear hb6
                  go_wp2_with fail
                  refine (HO1.out _ HB6.out).mono ?_
                  rintro e w7 ⟨vo, rfl, hIo, hb7⟩
                  have HB7 := Lib.hid (chainB HB6.out hb7)
                  have HIo := Lib.hid hIo
                  clear hIo
                  clear hb7
                  go_wp2_with fail
                  refine (HQ1.out _ _ HIo.out).mono ?_
                  rintro e w8 ⟨rfl, hb8⟩
                  have HB8 := Lib.hid (chainB HB7.out hb8)
                  clear hb8
                  go_wp2_with fail
                  refine (HO2.out _ HB8.out).mono ?_
                  rintro e w9 ⟨vq, rfl, hIq, hb9⟩
                  have HB9 := Lib.hid (chainB HB8.out hb9)
                  have HIq := Lib.hid hIq
                  clear hIq
                  clear hb9
                  go_wp2_with fail
                  refine (HQ2.out _ _ HIq.out).mono ?_
                  rintro e w10 ⟨rfl, hb10⟩
                  have HB10 := Lib.hid (chainB HB9.out hb10)
                  clear hb10
                  have AW := Lib.hid (HAW.out w10 (HT.out.below HB10.out))
                  go_wp2_with fail
                  refine (AW.out).mono ?_
                  rintro e w11 ⟨rfl, hb11⟩
                  have HB11 := Lib.hid (chainB HB10.out hb11)
                  clear hb11
                  go_wp2
                  go_ret
                  exact ⟨rfl, HB11.out⟩
                · skip
                  obtain ⟨o1, o2, o3, o4⟩ := over_ok hfa hab
                  have HX := Lib.hid (fun W (hW : Below w.heap.size w W) => apply_ok s (.slice A a.length c) a W (by omega) (by omega) hTa hfa (IsE.below hEa hW))
                  have HO1 := Lib.hid (fun W (hW : Below w.heap.size w W) => over_ok' s (.slice A a.length c) (.slice A2 b.length c2) a b W (by omega) (by omega) (by omega) hTa hTb h0 (IsE.below hEa hW) (IsE.below hEb hW))
                  have hbs1 := behind_size hfa
                  have HQ1 := Lib.hid (fun v W => apply_ok (behind s a) v (overE a b) W (by omega) (by omega) (fun x hx' => by have := o4 x hx'; omega) o1)
                  rw [o2] at HQ1
                  have HY := Lib.hid (fun W (hW : Below w.heap.size w W) => apply_no s (.slice A2 b.length c2) b W (by omega) (by omega) hTb hfb (IsE.below hEb hW))
                  generalize behind s (a ++ b) = t at *
                  generalize behind s a = ta at *
                  generalize overE a b = oa at *
                  generalize hEB : applF s.size b = EB at *
                  have nEB : (EB == 0) = false := by simp [hfb]
                  clear hEB
                  generalize ordF (a ++ b) = M at *
                  clear hap hab hba hlab hTab z1 z2 z3 h0 hTa hTb hEa hEb HM hfa hfb o1 o2 o3 o4 hbs1
                  go_enter Tryd.func8, Tryd.ntmps8
                  go_wp2_with fail
                  refine (HV1.out).mono ?_
                  rintro e w1 ⟨rfl, hb1⟩
                  have HB1 := Lib.hid hb1
                  clear hb1
                  go_wp2_with fail
                  refine (HV2.out _ HB1.out).mono ?_
                  rintro e w2 ⟨rfl, hb2⟩
                  have HB2 := Lib.hid (chainB HB1.out hb2)
                  clear hb2
                  go_wp2_with fail
                  refine (HM1.out _ HB2.out).mono ?_
                  rintro e w3 ⟨vm, rfl, hIm, hb3⟩
                  have HB3 := Lib.hid (chainB HB2.out hb3)
                  have HIm := Lib.hid hIm
                  clear hIm
                  clear hb3
                  go_wp2_with fail
                  refine (HP.out _ _ HIm.out).mono ?_
                  rintro e w4 ⟨rfl, hb4⟩
                  have HB4 := Lib.hid (chainB HB3.out hb4)
                  clear hb4
                  go_wp2_with fail
                  refine (HX.out _ HB4.out).mono ?_
                  rintro e w5 ⟨rfl, hb5⟩
                  have HB5 := Lib.hid (chainB HB4.out hb5)
                  clear hb5
                  go_wp2_with fail
                  refine (HY.out _ HB5.out).mono ?_
                  rintro e w6 ⟨rfl, hb6⟩
                  have HB6 := Lib.hid (chainB HB5.out hb6)
                  clear hb6
                  go_wp2_with fail
                  refine (HO1.out _ HB6.out).mono ?_
                  rintro e w7 ⟨vo, rfl, hIo, hb7⟩
                  have HB7 := Lib.hid (chainB HB6.out hb7)
                  have HIo := Lib.hid hIo
                  clear hIo
                  clear hb7
                  go_wp2_with fail
                  refine (HQ1.out _ _ HIo.out).mono ?_
                  rintro e w8 ⟨rfl, hb8⟩
                  have HB8 := Lib.hid (chainB HB7.out hb8)
                  clear hb8
                  have AW := Lib.hid (HAW.out w8 (HT.out.below HB8.out))
                  go_wp2_with fail
                  refine (AW.out).mono ?_
                  rintro e w9 ⟨rfl, hb9⟩
                  have HB9 := Lib.hid (chainB HB8.out hb9)
                  clear hb9
                  go_wp2
                  go_ret
                  exact ⟨rfl, HB9.out⟩
              · by_cases hfb : applF s.size b = 0
                · skip
                  have HX := Lib.hid (fun W (hW : Below w.heap.size w W) => apply_no s (.slice A a.length c) a W (by omega) (by omega) hTa hfa (IsE.below hEa hW))
                  obtain ⟨p1, p2, p3, p4⟩ := over_ok hfb hba
                  have HY := Lib.hid (fun W (hW : Below w.heap.size w W) => apply_ok s (.slice A2 b.length c2) b W (by omega) (by omega) hTb hfb (IsE.below hEb hW))
                  have HO2 := Lib.hid (fun W (hW : Below w.heap.size w W) => over_ok' s (.slice A2 b.length c2) (.slice A a.length c) b a W (by omega) (by omega) (by omega) hTb hTa (mergF_swap h0) (IsE.below hEb hW) (IsE.below hEa hW))
                  have hbs2 := behind_size hfb
                  have HQ2 := Lib.hid (fun v W => apply_ok (behind s b) v (overE b a) W (by omega) (by omega) (fun x hx' => by have := p4 x hx'; omega) p1)
                  rw [p2, behind_swap] at HQ2
                  generalize behind s (a ++ b) = t at *
                  generalize hEA : applF s.size a = EA at *
                  have nEA : (EA == 0) = false := by simp [hfa]
                  clear hEA
                  generalize behind s b = tb at *
                  generalize overE b a = ob at *
                  generalize ordF (a ++ b) = M at *
                  clear hap hab hba hlab hTab z1 z2 z3 h0 hTa hTb hEa hEb HM hfa hfb p1 p2 p3 p4 hbs2
                  go_enter Tryd.func8, Tryd.ntmps8
                  go_wp2_with fail
                  refine (HV1.out).mono ?_
                  rintro e w1 ⟨rfl, hb1⟩
                  have HB1 := Lib.hid hb1
                  clear hb1
                  go_wp2_with fail
                  refine (HV2.out _ HB1.out).mono ?_
                  rintro e w2 ⟨rfl, hb2⟩
                  have HB2 := Lib.hid (chainB HB1.out hb2)
                  clear hb2
                  go_wp2_with fail
                  refine (HM1.out _ HB2.out).mono ?_
                  rintro e w3 ⟨vm, rfl, hIm, hb3⟩
                  have HB3 := Lib.hid (chainB HB2.out hb3)
                  have HIm := Lib.hid hIm
                  clear hIm
                  clear hb3
                  go_wp2_with fail
                  refine (HP.out _ _ HIm.out).mono ?_
                  rintro e w4 ⟨rfl, hb4⟩
                  have HB4 := Lib.hid (chainB HB3.out hb4)
                  clear hb4
                  go_wp2_with fail
                  refine (HX.out _ HB4.out).mono ?_
                  rintro e w5 ⟨rfl, hb5⟩
                  have HB5 := Lib.hid (chainB HB4.out hb5)
                  clear hb5
                  go_wp2_with fail
                  refine (HY.out _ HB5.out).mono ?_
                  rintro e w6 ⟨rfl, hb6⟩
                  have HB6 := Lib.hid (chainB HB5.out hb6)
                  clear hb6
                  go_wp2_with fail
                  refine (HO2.out _ HB6.out).mono ?_
                  rintro e w7 ⟨vq, rfl, hIq, hb7⟩
                  have HB7 := Lib.hid (chainB HB6.out hb7)
                  have HIq := Lib.hid hIq
                  clear hIq
                  clear hb7
                  go_wp2_with fail
                  refine (HQ2.out _ _ HIq.out).mono ?_
                  rintro e w8 ⟨rfl, hb8⟩
                  have HB8 := Lib.hid (chainB HB7.out hb8)
                  clear hb8
                  have AW := Lib.hid (HAW.out w8 (HT.out.below HB8.out))
                  go_wp2_with fail
                  refine (AW.out).mono ?_
                  rintro e w9 ⟨rfl, hb9⟩
                  have HB9 := Lib.hid (chainB HB8.out hb9)
                  clear hb9
                  go_wp2
                  go_ret
                  exact ⟨rfl, HB9.out⟩
                · skip
                  have HX := Lib.hid (fun W (hW : Below w.heap.size w W) => apply_no s (.slice A a.length c) a W (by omega) (by omega) hTa hfa (IsE.below hEa hW))
                  have HY := Lib.hid (fun W (hW : Below w.heap.size w W) => apply_no s (.slice A2 b.length c2) b W (by omega) (by omega) hTb hfb (IsE.below hEb hW))
                  generalize behind s (a ++ b) = t at *
                  generalize hEA : applF s.size a = EA at *
                  have nEA : (EA == 0) = false := by simp [hfa]
                  clear hEA
                  generalize hEB : applF s.size b = EB at *
                  have nEB : (EB == 0) = false := by simp [hfb]
                  clear hEB
                  generalize ordF (a ++ b) = M at *
                  clear hap hab hba hlab hTab z1 z2 z3 h0 hTa hTb hEa hEb HM hfa hfb
                  go_enter Tryd.func8, Tryd.ntmps8
                  go_wp2_with fail
                  refine (HV1.out).mono ?_
                  rintro e w1 ⟨rfl, hb1⟩
                  have HB1 := Lib.hid hb1
                  clear hb1
                  go_wp2_with fail
                  refine (HV2.out _ HB1.out).mono ?_
                  rintro e w2 ⟨rfl, hb2⟩
                  have HB2 := Lib.hid (chainB HB1.out hb2)
                  clear hb2
                  go_wp2_with fail
                  refine (HM1.out _ HB2.out).mono ?_
                  rintro e w3 ⟨vm, rfl, hIm, hb3⟩
                  have HB3 := Lib.hid (chainB HB2.out hb3)
                  have HIm := Lib.hid hIm
                  clear hIm
                  clear hb3
                  go_wp2_with fail
                  refine (HP.out _ _ HIm.out).mono ?_
                  rintro e w4 ⟨rfl, hb4⟩
                  have HB4 := Lib.hid (chainB HB3.out hb4)
                  clear hb4
                  go_wp2_with fail
                  refine (HX.out _ HB4.out).mono ?_
                  rintro e w5 ⟨rfl, hb5⟩
                  have HB5 := Lib.hid (chainB HB4.out hb5)
                  clear hb5
                  go_wp2_with fail
                  refine (HY.out _ HB5.out).mono ?_
                  rintro e w6 ⟨rfl, hb6⟩
                  have HB6 := Lib.hid (chainB HB5.out hb6)
                  clear hb6
                  have AW := Lib.hid (HAW.out w6 (HT.out.below HB6.out))
                  go_wp2_with fail
                  refine (AW.out).mono ?_
                  rintro e w7 ⟨rfl, hb7⟩
                  have HB7 := Lib.hid (chainB HB6.out hb7)
                  clear hb7
                  go_wp2
                  go_ret
                  exact ⟨rfl, HB7.out⟩
            · have HP := Lib.hid (fun v W => apply_no s v (ordF (a ++ b)) W (by omega) (by omega) hTab (by rw [hap]; exact hab))
              rw [hap] at HP
              generalize applF s.size (a ++ b) = E at *
              have hne : (E != 0) = true := by simp [hab]
              generalize ordF (a ++ b) = M at *
              clear hap hab hlab hTab z1 z2 z3 h0 hTa hTb hEa hEb HM
              go_enter Tryd.func8, Tryd.ntmps8
              go_wp2_with fail
              refine (HV1.out).mono ?_
              rintro e w1 ⟨rfl, hb1⟩
              have HB1 := Lib.hid hb1
              clear hb1
              go_wp2_with fail
              refine (HV2.out _ HB1.out).mono ?_
              rintro e w2 ⟨rfl, hb2⟩
              have HB2 := Lib.hid (chainB HB1.out hb2)
              clear hb2
              go_wp2_with fail
              refine (HM1.out _ HB2.out).mono ?_
              rintro e w3 ⟨vm, rfl, hIm, hb3⟩
              have HB3 := Lib.hid (chainB HB2.out hb3)
              have HIm := Lib.hid hIm
              clear hIm
              clear hb3
              go_wp2_with fail
              refine (HP.out _ _ HIm.out).mono ?_
              rintro e w4 ⟨rfl, hb4⟩
              have HB4 := Lib.hid (chainB HB3.out hb4)
              clear hb4
              have AW := Lib.hid (HAW.out w4 (HT.out.below HB4.out))
              go_wp2_with fail
              refine (AW.out).mono ?_
              rintro e w5 ⟨rfl, hb5⟩
              have HB5 := Lib.hid (chainB HB4.out hb5)
              clear hb5
              go_wp2
              go_ret
              exact ⟨rfl, HB5.out⟩
          · generalize mergF s.size a b = E at *
            have hne : (E != 0) = true := by simp [h0]
            clear h0 hTa hTb hEa hEb
            go_enter Tryd.func8, Tryd.ntmps8
            go_wp2_with fail
            refine (HV1.out).mono ?_
            rintro e w1 ⟨rfl, hb1⟩
            have HB1 := Lib.hid hb1
            clear hb1
            go_wp2_with fail
            refine (HV2.out _ HB1.out).mono ?_
            rintro e w2 ⟨rfl, hb2⟩
            have HB2 := Lib.hid (chainB HB1.out hb2)
            clear hb2
            go_wp2_with fail
            refine (HM.out _ HB2.out).mono ?_
            rintro e w3 ⟨vm, rfl, _, hb3⟩
            have HB3 := Lib.hid (chainB HB2.out hb3)
            clear hb3
            have AW := Lib.hid (HAW.out w3 (HT.out.below HB3.out))
            go_wp2_with fail
            refine (AW.out).mono ?_
            rintro e w4 ⟨rfl, hb4⟩
            have HB4 := Lib.hid (chainB HB3.out hb4)
            clear hb4
            go_wp2
            go_ret
            exact ⟨rfl, HB4.out⟩

end Go.Proofs.YtgpmodbndngcoaaDoor
