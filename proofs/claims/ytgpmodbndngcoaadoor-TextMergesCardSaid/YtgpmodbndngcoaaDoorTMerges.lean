/- TextMerges: the walk of the law. -/
import Derived.Test.YtgpmodbndngcoaaDoorRefOver
import Derived.Test.YtgpmodbndngcoaaDoorTEdits
import Derived.Test.YtgpmodbndngcoaaDoorTBack
namespace Go.Proofs.YtgpmodbndngcoaaDoor
open Go.RowKit Go.Maps

theorem mergL_length (n : Nat) (a b : List Ed) : (mergL n a b).length ≤ a.length + b.length := by
  unfold mergL
  split
  · have := length_ordF (a ++ b)
    rw [List.length_append] at this
    exact this
  · simp

set_option maxHeartbeats 4000000 in
set_option maxRecDepth 100000 in
theorem textMerges_any (haw : ∀ W, Tab W → Calls Tryd.prog 17 #[] W fun e w' => e = .returned (.bool true) ∧ Below W.heap.size W w')
    (s : ByteArray) (A A2 : Option Addr) (a b : List Ed) (c c2 : Nat) (w : World) (ht : Tab w)
    (hs : s.size ≤ 140737488355328) (ha : a.length ≤ 140737488355328) (hb : b.length ≤ 140737488355328) (hxa : ∀ x ∈ a, x.s.size ≤ 140737488355328) (hxb : ∀ x ∈ b, x.s.size ≤ 140737488355328) (hEa : IsE w (.slice A a.length c) a) (hEb : IsE w (.slice A2 b.length c2) b) :
    Calls Tryd.prog 5 #[.string s, .slice A a.length c, .slice A2 b.length c2] w fun e w' => e = .returned (.bool true) ∧ Below w.heap.size w w' := by
  have hEla : ESl w w.heap.size A a := by obtain ⟨A', c', e, _, _, _, h⟩ := hEa; cases e; exact h
  have hElb : ESl w w.heap.size A2 b := by obtain ⟨A', c', e, _, _, _, h⟩ := hEb; cases e; exact h
  have V1 := heavy_any A c s a w hs ha hxa hEla
  have V2 := fun W (hW : Below w.heap.size w W) => heavy_any A2 c2 s b W hs hb hxb ((hElb.below hW).more hW.size)
  have HT := Lib.hid ht
  have HAW := Lib.hid haw
  clear ht haw
  by_cases hqa : heavyF s a = true
  · rw [hqa] at V1
    have HV1 := Lib.hid V1
    clear V1 V2 hqa hEla hElb hEa hEb hxa hxb
    go_enter Tryd.func5, Tryd.ntmps5
    go_wp2_with fail
    refine (HV1.out).mono ?_
    rintro e w1 ⟨rfl, hb1⟩
    have HB1 := Lib.hid hb1
    clear hb1
    go_wp2
    go_ret
    exact ⟨rfl, HB1.out⟩
  · have hqa' : heavyF s a = false := by simpa using hqa
    obtain ⟨n1, n2, n3⟩ := heavyF_no hqa'
    rw [hqa'] at V1
    have HV1 := Lib.hid V1
    by_cases hqb : heavyF s b = true
    · simp only [hqb] at V2
      have HV2 := Lib.hid V2
      clear V1 V2 hqa hqa' hqb hEla hElb hEa hEb hxa hxb n1 n2 n3
      go_enter Tryd.func5, Tryd.ntmps5
      go_wp2_with fail
      refine (HV1.out).mono ?_
      rintro e w1 ⟨rfl, hb1⟩
      have HB1 := Lib.hid hb1
      clear hb1
      go_wp2_with fail
      refine (HV2.out _ HB1.out).mono ?_
      rintro e w2 ⟨rfl, hb2⟩
      have HB2 := Lib.hid (chainB HB1.out hb2)
      clear hb2
      go_wp2
      go_ret
      exact ⟨rfl, HB2.out⟩
    · have hqb' : heavyF s b = false := by simpa using hqb
      obtain ⟨m1, m2, m3⟩ := heavyF_no hqb'
      simp only [hqb'] at V2
      have HV2 := Lib.hid V2
      clear V1 V2 hqa hqa' hqb hqb'
      by_cases h40 : 40 < a.length
      · have g40 : (40 : Int) < a.length := by omega
        clear hEla hElb hEa hEb hxa hxb n1 n2 n3 m1 m2 m3 h40
        go_enter Tryd.func5, Tryd.ntmps5
        go_wp2_with fail
        refine (HV1.out).mono ?_
        rintro e w1 ⟨rfl, hb1⟩
        have HB1 := Lib.hid hb1
        clear hb1
        go_wp2_with fail
        refine (HV2.out _ HB1.out).mono ?_
        rintro e w2 ⟨rfl, hb2⟩
        have HB2 := Lib.hid (chainB HB1.out hb2)
        clear hb2
        go_wp2
        go_ret
        exact ⟨rfl, HB2.out⟩
      · have g40 : ¬ (40 : Int) < a.length := by omega
        by_cases h41 : 40 < b.length
        · have g41 : (40 : Int) < b.length := by omega
          clear hEla hElb hEa hEb hxa hxb n1 n2 n3 m1 m2 m3 h40 h41
          go_enter Tryd.func5, Tryd.ntmps5
          go_wp2_with fail
          refine (HV1.out).mono ?_
          rintro e w1 ⟨rfl, hb1⟩
          have HB1 := Lib.hid hb1
          clear hb1
          go_wp2_with fail
          refine (HV2.out _ HB1.out).mono ?_
          rintro e w2 ⟨rfl, hb2⟩
          have HB2 := Lib.hid (chainB HB1.out hb2)
          clear hb2
          go_wp2
          go_ret
          exact ⟨rfl, HB2.out⟩
        · have g41 : ¬ (40 : Int) < b.length := by omega
          have hTa : SmallT a := fun x hx' => by have := n2 x hx'; omega
          have hTb : SmallT b := fun x hx' => by have := m2 x hx'; omega
          have HEa := Lib.hid hEa
          have HEb := Lib.hid hEb
          have hal : a.length ≤ 40 := by omega
          have hbl : b.length ≤ 40 := by omega
          have C1 := fun W => merge_any s (.slice A a.length c) (.slice A2 b.length c2) a b W (by omega) (by omega) (by omega)
          have C2 := fun W => refMerge_any s A A2 a b c c2 W (by omega) (by omega) (by omega)
          have C3 := fun W => over_any s (.slice A a.length c) (.slice A2 b.length c2) a b W (by omega) (by omega) (by omega) hTa hTb
          have C4 := fun W => refOver_any s A A2 a b c c2 W (by omega) (by omega) (by omega) hTa hTb
          have hml := mergL_length s.size a b
          have hol : (if mergF s.size a b = 0 then overE a b else []).length ≤ 1000000 := by
            by_cases g : mergF s.size a b = 0
            · rw [if_pos g]
              unfold overE
              have q1 := joinF_length _ (overF (ordF a) (ordF b) 0) (Nat.le_refl _)
              have q2 := filter_sub_length (fun _ => true) (fun _ => true) (ordF a) (ordF b) 0
              have q3 := length_ordF b
              omega
            · rw [if_neg g]; simp
          have C5 := fun v v2 W => eqEdits_same v v2 (mergL s.size a b) W (by omega)
          have C6 := fun v v2 W => eqEdits_same v v2 (if mergF s.size a b = 0 then overE a b else []) W hol
          generalize (if mergF s.size a b = 0 then overE a b else []) = OL at *
          generalize mergL s.size a b = ML at *
          generalize mergF s.size a b = E at *
          have HC1 := Lib.hid C1
          have HC2 := Lib.hid C2
          have HC3 := Lib.hid C3
          have HC4 := Lib.hid C4
          have HC5 := Lib.hid C5
          have HC6 := Lib.hid C6
          clear C1 C2 C3 C4 C5 C6 hml hol hTa hTb hEla hElb hEa hEb hxa hxb n1 n2 n3 m1 m2 m3 h40 h41 ha hb
          go_enter Tryd.func5, Tryd.ntmps5
          go_wp2_with fail
          refine (HV1.out).mono ?_
          rintro e w1 ⟨rfl, hb1⟩
          have HB1 := Lib.hid hb1
          clear hb1
          go_wp2_with fail
          refine (HV2.out _ HB1.out).mono ?_
          rintro e w2 ⟨rfl, hb2⟩
          have HB2 := Lib.hid (chainB HB1.out hb2)
          clear hb2 HB1 HV1 HV2
          go_wp2_with fail
          refine (HC1.out _ (IsE.below HEa.out HB2.out) (IsE.below HEb.out HB2.out)).mono ?_
          rintro e w3 ⟨v3, rfl, hI3, hb3⟩
          have HB3 := Lib.hid (chainB HB2.out hb3)
          have HI3 := Lib.hid hI3
          clear hb3 HB2 HC1 hI3
          go_wp2_with fail
          refine (HC2.out _ (IsE.below HEa.out HB3.out) (IsE.below HEb.out HB3.out)).mono ?_
          rintro e w4 ⟨v4, rfl, hI4, hb4⟩
          have HB4 := Lib.hid (chainB HB3.out hb4)
          have HI34 := Lib.hid (IsE.below HI3.out hb4)
          have HI4 := Lib.hid hI4
          clear hb4 HB3 HC2 hI4 HI3
          go_wp2_with fail
          refine (HC5.out _ _ _ HI34.out HI4.out).mono ?_
          rintro e w5 ⟨rfl, hb5⟩
          have HB5 := Lib.hid (chainB HB4.out hb5)
          clear hb5 HB4 HC5 HI34 HI4
          go_wp2_with fail
          refine (HC3.out _ (IsE.below HEa.out HB5.out) (IsE.below HEb.out HB5.out)).mono ?_
          rintro e w6 ⟨v6, rfl, hI6, hb6⟩
          have HB6 := Lib.hid (chainB HB5.out hb6)
          have HI6 := Lib.hid hI6
          clear hb6 HB5 HC3 hI6
          go_wp2_with fail
          refine (HC4.out _ (IsE.below HEa.out HB6.out) (IsE.below HEb.out HB6.out)).mono ?_
          rintro e w7 ⟨v7, rfl, hI7, hb7⟩
          have HB7 := Lib.hid (chainB HB6.out hb7)
          have HI67 := Lib.hid (IsE.below HI6.out hb7)
          have HI7 := Lib.hid hI7
          clear hb7 HB6 HC4 hI7 HI6
          go_wp2_with fail
          refine (HC6.out _ _ _ HI67.out HI7.out).mono ?_
          rintro e w8 ⟨rfl, hb8⟩
          have HB8 := Lib.hid (chainB HB7.out hb8)
          have A8 := Lib.hid (HAW.out w8 (HT.out.below HB8.out))
          clear hb8 HB7 HC6 HI67 HI7
          go_wp2_with fail
          refine A8.out.mono ?_
          rintro e w9 ⟨rfl, hb9⟩
          have HB9 := Lib.hid (chainB HB8.out hb9)
          clear hb9 HB8 A8
          go_wp2
          go_ret
          exact ⟨rfl, HB9.out⟩

end Go.Proofs.YtgpmodbndngcoaaDoor
