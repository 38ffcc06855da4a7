/- Merge: both lists of edits as one. -/
import Derived.Test.YtgpmodbndngcoaaDoorConcat
import Derived.Test.YtgpmodbndngcoaaDoorRefA
namespace Go.Proofs.YtgpmodbndngcoaaDoor
open Go.RowKit Go.Maps

/-- the error of two lists of edits together -/
def mergF (n : Nat) (a b : List Ed) : Int := if fineF n a ≠ 0 then fineF n a else if fineF n b ≠ 0 then fineF n b else fineF n (a ++ b)
def mergL (n : Nat) (a b : List Ed) : List Ed := if mergF n a b = 0 then ordF (a ++ b) else []

theorem mergF_zero {n : Nat} {a b : List Ed} (h : mergF n a b = 0) : fineF n a = 0 ∧ fineF n b = 0 ∧ fineF n (a ++ b) = 0 := by
  unfold mergF at h
  by_cases h1 : fineF n a ≠ 0
  · rw [if_pos h1] at h; exact absurd h h1
  · rw [if_neg h1] at h
    by_cases h2 : fineF n b ≠ 0
    · rw [if_pos h2] at h; exact absurd h h2
    · rw [if_neg h2] at h
      exact ⟨Classical.not_not.1 h1, Classical.not_not.1 h2, h⟩

set_option maxHeartbeats 2000000 in
set_option maxRecDepth 100000 in
theorem merge_any (s : ByteArray) (va vb : Value) (a b : List Ed) (w : World) (hs : s.size ≤ 140737488355328) (ha : a.length ≤ 100000) (hb : b.length ≤ 100000) (h1 : IsE w va a) (h2 : IsE w vb b) :
    Calls Tryd.prog 26 #[.string s, va, vb] w fun e w' => ∃ v', e = .returned (.tuple #[v', .int .i64 (mergF s.size a b)]) ∧ IsE w' v' (mergL s.size a b) ∧ Below w.heap.size w w' := by
  have f1 := textFine_any s va a w hs (by omega) h1
  have f2 := fun W (hW : Below w.heap.size w W) => textFine_any s vb b W hs (by omega) (IsE.below h2 hW)
  by_cases z1 : fineF s.size a = 0
  · by_cases z2 : fineF s.size b = 0
    · obtain ⟨A, c, rfl, hA, k1, k2, hE⟩ := h1
      obtain ⟨A2, c2, rfl, hA2, k3, k4, hE2⟩ := h2
      have hm : mergF s.size a b = fineF s.size (a ++ b) := by unfold mergF; rw [if_neg (fun g => g z1), if_neg (fun g => g z2)]
      have hml : mergL s.size a b = fineL s.size (a ++ b) := by unfold mergL fineL; rw [hm]
      rw [hm, hml]
      rw [z1] at f1
      rw [z2] at f2
      have hfe := fun v W => fineEdits_any s v (a ++ b) W hs (by rw [List.length_append]; omega)
      generalize fineF s.size (a ++ b) = E at *
      generalize fineL s.size (a ++ b) = L at *
      have F1 := Lib.hid f1
      have F2 := Lib.hid f2
      have HFE := Lib.hid hfe
      have HE := Lib.hid hE
      have HE2 := Lib.hid hE2
      have HNA := Lib.hid hA
      have HNA2 := Lib.hid hA2
      clear f1 f2 hfe hE hE2 hA hA2 hm hml z1 z2
      go_enter Tryd.func26, Tryd.ntmps26
      go_wp2_with fail
      refine F1.out.mono ?_
      rintro e w1 ⟨rfl, hb1⟩
      have HB1 := Lib.hid hb1
      clear hb1
      go_wp2_with fail
      refine (F2.out _ HB1.out).mono ?_
      rintro e w2 ⟨rfl, hb2⟩
      have HB2 := Lib.hid (HB1.out.trans (hb2.mono HB1.out.size))
      have hbs2 := HB2.out.size
      clear hb2 HB1
      go_wp2_with fail
      have hb3 := HB2.out.alloc hbs2 (.cells #[.slice A a.length c, .slice A2 b.length c2] 30)
      have hxb := heap_alloc_new w2 (.cells #[.slice A a.length c, .slice A2 b.length c2] 30)
      have hcc := concatE_any w2.heap.size A A2 a b c c2 (w2.alloc (.cells #[.slice A a.length c, .slice A2 b.length c2] 30)) ha hb HNA.out HNA2.out (cell_of_row _ _ 0 _ _ (0, 0) hxb) (cell_of_row _ _ 1 _ _ (0, 0) hxb) (by simp) ((HE.out.below hb3).more hb3.size) ((HE2.out.below hb3).more hb3.size)
      refine hcc.mono ?_
      rintro e w3 ⟨v3, rfl, ho3, hb4⟩
      have hI3 := IsE.of_own rfl ho3
      have HB4 := Lib.hid (hb3.trans (hb4.mono hb3.size))
      have HF3 := Lib.hid (HFE.out v3 w3 hI3)
      clear hcc hxb hb3 ho3 hb4 hI3
      go_wp2_with fail
      refine HF3.out.mono ?_
      rintro e w4 ⟨v4, rfl, hI4, hb5⟩
      have HB5 := Lib.hid (HB4.out.trans (hb5.mono HB4.out.size))
      have HI4 := Lib.hid hI4
      clear hI4 hb5
      go_wp2
      go_ret2
      exact ⟨_, rfl, HI4.out, HB5.out⟩
    · have hm : mergF s.size a b = fineF s.size b := by unfold mergF; rw [if_neg (fun g => g z1), if_pos z2]
      have hml : mergL s.size a b = [] := by unfold mergL; rw [hm, if_neg z2]
      rw [hm, hml]
      rw [z1] at f1
      generalize fineF s.size b = E at *
      have hne : (E != 0) = true := by simp [z2]
      have F1 := Lib.hid f1
      have F2 := Lib.hid f2
      clear f1 f2 h1 h2 hm hml z1 z2
      go_enter Tryd.func26, Tryd.ntmps26
      go_wp2_with fail
      refine F1.out.mono ?_
      rintro e w1 ⟨rfl, hb1⟩
      have HB1 := Lib.hid hb1
      clear hb1
      go_wp2_with fail
      refine (F2.out _ HB1.out).mono ?_
      rintro e w2 ⟨rfl, hb2⟩
      have HB2 := Lib.hid (HB1.out.trans (hb2.mono HB1.out.size))
      clear hb2
      go_wp2
      go_ret2
      exact ⟨_, rfl, IsE.nil _, HB2.out⟩
  · have hm : mergF s.size a b = fineF s.size a := by unfold mergF; rw [if_pos z1]
    have hml : mergL s.size a b = [] := by unfold mergL; rw [hm, if_neg z1]
    rw [hm, hml]
    generalize fineF s.size a = E at *
    have hne : (E != 0) = true := by simp [z1]
    have F1 := Lib.hid f1
    clear f1 f2 h1 h2 hm hml z1
    go_enter Tryd.func26, Tryd.ntmps26
    go_wp2_with fail
    refine F1.out.mono ?_
    rintro e w1 ⟨rfl, hb1⟩
    go_wp2
    go_ret2
    exact ⟨_, rfl, IsE.nil _, hb1⟩

end Go.Proofs.YtgpmodbndngcoaaDoor
