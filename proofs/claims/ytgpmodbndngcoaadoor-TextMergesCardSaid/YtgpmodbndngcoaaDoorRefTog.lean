/- The document's together and Merge. -/
import Derived.Test.YtgpmodbndngcoaaDoorMerg
import Derived.Test.YtgpmodbndngcoaaDoorRefOrd
import Derived.Test.YtgpmodbndngcoaaDoorRefFi
namespace Go.Proofs.YtgpmodbndngcoaaDoor
open Go.RowKit Go.Maps

/-- a list put behind a row that the call owns: nil or not -/
theorem run_put (w : World) (B : Nat) (v : Value) (n : Nat) (xs : List Value) (ty : TypeId) (h : w.ownsRow B 46 3 v n xs) (l : List Ed) (c : Nat) (hA : l = [] ∧ c = 0) :
    (Builtin.append_ #[30, 30] ty #[v, .slice none l.length c]).run Tryd.prog w = .ok v w := by
  obtain ⟨i0, hi, hz0, hz1, hz2⟩ := info_parts infoEd
  obtain ⟨e1, e2⟩ := hA
  rw [e1, e2]
  exact run_append_owned_none (P := Tryd.prog) (w := w) B 30 ty 46 i0 3 Tryd.underlying30 hi v n xs h

set_option maxHeartbeats 4000000 in
set_option maxRecDepth 100000 in
theorem refTogether_any (s : ByteArray) (A A2 : Option Addr) (a b : List Ed) (c c2 : Nat) (w : World) (hs : s.size ≤ 140737488355328) (ha : a.length ≤ 100000) (hb : b.length ≤ 100000) (h1 : IsE w (.slice A a.length c) a) (h2 : IsE w (.slice A2 b.length c2) b) :
    Calls Tryd.prog 65 #[.string s, .slice A a.length c, .slice A2 b.length c2] w fun e w' => e = .returned (.int .i64 (mergF s.size a b)) ∧ Below w.heap.size w w' := by
  have f1 := refFine_any s _ a w hs (by omega) h1
  have f2 := fun W (hW : Below w.heap.size w W) => refFine_any s _ b W hs (by omega) (IsE.below h2 hW)
  by_cases z1 : fineF s.size a = 0
  · by_cases z2 : fineF s.size b = 0
    · have hm : mergF s.size a b = fineF s.size (a ++ b) := by unfold mergF; rw [if_neg (fun g => g z1), if_neg (fun g => g z2)]
      rw [hm]
      rw [z1] at f1
      rw [z2] at f2
      have hfe := fun v W => refFine_any s v (a ++ b) W hs (by rw [List.length_append]; omega)
      generalize fineF s.size (a ++ b) = E at *
      have hEl1 : ESl w w.heap.size A a ∧ (A = none → a = [] ∧ c = 0) := by obtain ⟨A', c', e, hA, _, _, h⟩ := h1; cases e; exact ⟨h, hA⟩
      have hEl2 : ESl w w.heap.size A2 b ∧ (A2 = none → b = [] ∧ c2 = 0) := by obtain ⟨A', c', e, hA, _, _, h⟩ := h2; cases e; exact ⟨h, hA⟩
      obtain ⟨i0, hi, hz0, hz1, hz2⟩ := info_parts infoEd
      have F1 := Lib.hid f1
      have F2 := Lib.hid f2
      have HFE := Lib.hid hfe
      have HE := Lib.hid hEl1.1
      have HE2 := Lib.hid hEl2.1
      have HNA := Lib.hid hEl1.2
      have HNA2 := Lib.hid hEl2.2
      clear f1 f2 hfe hEl1 hEl2 hm z1 z2 h1 h2
      go_enter Tryd.func65, Tryd.ntmps65
      go_wp2_with fail
      refine F1.out.mono ?_
      rintro e w1 ⟨rfl, hb1⟩
      have HB1 := Lib.hid hb1
      clear hb1
      go_wp2_with fail
      refine (F2.out _ HB1.out).mono ?_
      rintro e w2 ⟨rfl, hb2⟩
      have hbb := HB1.out.trans (hb2.mono HB1.out.size)
      have HB2 := Lib.hid hbb
      have hbs2 := hbb.size
      have HBA := Lib.hid (hbb.alloc hbs2 (.cells #[] 46))
      have HO := Lib.hid (World.ownsRow_made (base := w.heap.size) (size := 3) (e := 46) w2 #[] 0 hbs2 (Nat.zero_le _) rfl)
      clear hb2 HB1 hbb
      rcases A with _ | ad
      · have HRA := Lib.hid (fun ty => run_put (w2.alloc (.cells #[] 46)) w.heap.size _ 0 [] ty HO.out a c (HNA.out rfl))
        have HOA := Lib.hid (show (w2.alloc (.cells #[] 46)).ownsRow w.heap.size 46 3 (.slice (some ⟨w2.heap.size, 0, none⟩) 0 0) a.length (cellsE a) by rw [(HNA.out rfl).1]; exact HO.out)
        have hbsa := HBA.out.size
        clear HO
        rcases A2 with _ | ad2
        · have HRB := Lib.hid (fun ty => run_put (w2.alloc (.cells #[] 46)) w.heap.size _ a.length (cellsE a) ty HOA.out b c2 (HNA2.out rfl))
          have HOB := Lib.hid (show (w2.alloc (.cells #[] 46)).ownsRow w.heap.size 46 3 (.slice (some ⟨w2.heap.size, 0, none⟩) 0 0) (a ++ b).length (cellsE (a ++ b)) by rw [(HNA2.out rfl).1, List.append_nil]; exact HOA.out)
          have HIB := Lib.hid (IsE.of_own rfl HOB.out)
          have HF3 := Lib.hid (HFE.out _ _ HIB.out)
          have HB4 := Lib.hid HBA.out
          go_wp2_with (first | (at_builtin; refine Lib.wpList_append_run _ rfl (.tmp 21) (.tmp 22) _ _ rfl _ _ rfl rfl _ _ (HRA.out _) ?_) | (at_builtin; refine Lib.wpList_append_run _ rfl (.tmp 23) (.tmp 24) _ _ rfl _ _ rfl rfl _ _ (HRB.out _) ?_))
          refine HF3.out.mono ?_
          rintro e w9 ⟨rfl, hb9⟩
          have HB9 := Lib.hid (HB4.out.trans (hb9.mono HB4.out.size))
          clear hb9
          go_wp2
          go_ret
          exact ⟨rfl, HB9.out⟩
        · have HNB := Lib.hid (Rd.at_add (HE2.out.below HBA.out))
          go_wp2_with (first | (at_builtin; refine Lib.wpList_append_run _ rfl (.tmp 21) (.tmp 22) _ _ rfl _ _ rfl rfl _ _ (HRA.out _) ?_) | (at_builtin; refine wpList_append_own _ rfl (.tmp 23) (.tmp 24) 30 rfl w.heap.size 46 i0 _ 3 32 Tryd.underlying30 hi hz0 hz1 hz2 rfl (by decide) _ a.length (cellsE a) rfl HOA.out ad2 b.length c2 (cellsE b) rfl (cellsE_length b) HNB.out (fun u hu => cellsE_one hu) (by unfold maxLen; omega) (by omega) hbsa ?_; intro v8 w8 how8 hgw8 _))
          rw [← cellsE_append] at how8
          have HIB := Lib.hid (IsE.of_own (l := a ++ b) (by rw [List.length_append]) how8)
          have HF3 := Lib.hid (HFE.out _ _ HIB.out)
          have HB4 := Lib.hid (HBA.out.grown hgw8 hbsa (fun k e => (HOA.out.lt k e).1))
          clear how8 hgw8
          refine HF3.out.mono ?_
          rintro e w9 ⟨rfl, hb9⟩
          have HB9 := Lib.hid (HB4.out.trans (hb9.mono HB4.out.size))
          clear hb9
          go_wp2
          go_ret
          exact ⟨rfl, HB9.out⟩
      · have HNN := Lib.hid (Rd.at_add (HE.out.below HBA.out))
        have hbsa := HBA.out.size
        rcases A2 with _ | ad2
        · have HN0 := Lib.hid (HNA2.out rfl)
          go_wp2_with (first | (at_builtin; refine wpList_append_own _ rfl (.tmp 21) (.tmp 22) 30 rfl w.heap.size 46 i0 _ 3 32 Tryd.underlying30 hi hz0 hz1 hz2 rfl (by decide) _ 0 [] rfl HO.out ad a.length c (cellsE a) rfl (cellsE_length a) HNN.out (fun u hu => cellsE_one hu) (by unfold maxLen; omega) (by omega) hbsa ?_; intro v7 w7 how7 hgw7 _; simp only [Nat.zero_add, List.nil_append] at how7; have HB7 := Lib.hid (HBA.out.grown hgw7 hbsa (fun k e => (HO.out.lt k e).1)); have HO7 := Lib.hid how7; have hbs7 := HB7.out.size; clear how7 hgw7; have HRB := Lib.hid (fun ty => run_put w7 w.heap.size v7 a.length (cellsE a) ty HO7.out b c2 HN0.out); have HOB := Lib.hid (show w7.ownsRow w.heap.size 46 3 v7 (a ++ b).length (cellsE (a ++ b)) by rw [HN0.out.1, List.append_nil]; exact HO7.out); have HIB := Lib.hid (IsE.of_own rfl HOB.out); have HF3 := Lib.hid (HFE.out _ _ HIB.out)) | (at_builtin; refine Lib.wpList_append_run _ rfl (.tmp 23) (.tmp 24) _ _ rfl _ _ rfl rfl _ _ (HRB.out _) ?_))
          have HB4 := Lib.hid HB7.out
          refine HF3.out.mono ?_
          rintro e w9 ⟨rfl, hb9⟩
          have HB9 := Lib.hid (HB4.out.trans (hb9.mono HB4.out.size))
          clear hb9
          go_wp2
          go_ret
          exact ⟨rfl, HB9.out⟩
        · go_wp2_with (first | (at_builtin; refine wpList_append_own _ rfl (.tmp 21) (.tmp 22) 30 rfl w.heap.size 46 i0 _ 3 32 Tryd.underlying30 hi hz0 hz1 hz2 rfl (by decide) _ 0 [] rfl HO.out ad a.length c (cellsE a) rfl (cellsE_length a) HNN.out (fun u hu => cellsE_one hu) (by unfold maxLen; omega) (by omega) hbsa ?_; intro v7 w7 how7 hgw7 _; simp only [Nat.zero_add, List.nil_append] at how7; have HB7 := Lib.hid (HBA.out.grown hgw7 hbsa (fun k e => (HO.out.lt k e).1)); have HO7 := Lib.hid how7; have hbs7 := HB7.out.size; clear how7 hgw7; have HNB := Lib.hid (Rd.at_add (HE2.out.below HB7.out))) | (at_builtin; refine wpList_append_own _ rfl (.tmp 23) (.tmp 24) 30 rfl w.heap.size 46 i0 _ 3 32 Tryd.underlying30 hi hz0 hz1 hz2 rfl (by decide) _ a.length (cellsE a) rfl HO7.out ad2 b.length c2 (cellsE b) rfl (cellsE_length b) HNB.out (fun u hu => cellsE_one hu) (by unfold maxLen; omega) (by omega) hbs7 ?_; intro v8 w8 how8 hgw8 _))
          rw [← cellsE_append] at how8
          have HIB := Lib.hid (IsE.of_own (l := a ++ b) (by rw [List.length_append]) how8)
          have HF3 := Lib.hid (HFE.out _ _ HIB.out)
          have HB4 := Lib.hid (HB7.out.grown hgw8 hbs7 (fun k e => (HO7.out.lt k e).1))
          clear how8 hgw8
          refine HF3.out.mono ?_
          rintro e w9 ⟨rfl, hb9⟩
          have HB9 := Lib.hid (HB4.out.trans (hb9.mono HB4.out.size))
          clear hb9
          go_wp2
          go_ret
          exact ⟨rfl, HB9.out⟩
    · have hm : mergF s.size a b = fineF s.size b := by unfold mergF; rw [if_neg (fun g => g z1), if_pos z2]
      rw [hm]
      rw [z1] at f1
      generalize fineF s.size b = E at *
      have hne : (E != 0) = true := by simp [z2]
      have F1 := Lib.hid f1
      have F2 := Lib.hid f2
      clear f1 f2 h1 h2 hm z1 z2
      go_enter Tryd.func65, Tryd.ntmps65
      go_wp2_with fail
      refine F1.out.mono ?_
      rintro e w1 ⟨rfl, hb1⟩
      have HB1 := Lib.hid hb1
      clear hb1
      go_wp2_with fail
      refine (F2.out _ HB1.out).mono ?_
      rintro e w2 ⟨rfl, hb2⟩
      have HB2 := Lib.hid (HB1.out.trans (hb2.mono HB1.out.size))
      clear hb2
      go_wp2
      go_ret
      exact ⟨rfl, HB2.out⟩
  · have hm : mergF s.size a b = fineF s.size a := by unfold mergF; rw [if_pos z1]
    rw [hm]
    generalize fineF s.size a = E at *
    have hne : (E != 0) = true := by simp [z1]
    have F1 := Lib.hid f1
    clear f1 f2 h1 h2 hm z1
    go_enter Tryd.func65, Tryd.ntmps65
    go_wp2_with fail
    refine F1.out.mono ?_
    rintro e w1 ⟨rfl, hb1⟩
    go_wp2
    go_ret
    exact ⟨rfl, hb1⟩

end Go.Proofs.YtgpmodbndngcoaaDoor
