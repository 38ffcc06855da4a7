/- slices.Concat of two lists of edits. Merge: both lists of edits as one. -/
import Derived.Test.YtgpmodbndngcoaaDoorSort
import Derived.Test.YtgpmodbndngcoaaDoorJoin
import Derived.Lib.AppendZeros
import Derived.Laws.AppendOwnNone
import Derived.Test.YtgpmodbndngcoaaDoorRefFi

namespace Go.Proofs.YtgpmodbndngcoaaDoor
open Go.RowKit Go.Maps

set_option maxHeartbeats 1000000 in
set_option maxRecDepth 100000 in
/-- room for n edits, out of nil -/
theorem growE_any (n : Nat) (w : World) (hn : n ≤ 1000000) :
    Calls Tryd.prog 95 #[.slice none 0 0, .int .i64 n] w fun e w' => ∃ v', e = .returned v' ∧ w'.ownsRow w.heap.size 46 3 v' 0 [] ∧ Below w.heap.size w w' := by
  obtain ⟨i0, hi, hz0, hz1, hz2⟩ := info_parts infoEd
  have h1 : ¬ ((n : Int) < 0) := by omega
  by_cases h0 : n = 0
  · subst h0
    go_enter Tryd.func95, Tryd.ntmps95
    go_wp2
    go_ret
    exact ⟨_, rfl, World.ownsRow_nil _ _ _ _, Below.refl _ _⟩
  · have h4 : (0 : Int) < (n : Int) := by omega
    have hr := fun ty => Lib.run_append_nil_zeros (P := Tryd.prog) w 30 3 ty 46 i0 _ .i64 .i64 Tryd.underlying30 Tryd.underlying3 hi hz0 n (by omega) (by omega) (by omega) (by rw [hz2]; omega)
    have hG1 : n ≤ grownCap w n 0 46 := grownCap_ge w _ _ _
    have hG2 : grownCap w n 0 46 ≤ maxLen := grownCap_le_maxLen w n 0 46 (by unfold maxLen; omega)
    generalize grownCap w n 0 46 = G at *
    have HG1 := Lib.hid hG1
    have HG2 := Lib.hid hG2
    unfold maxLen at hG2
    have hown : (w.drew.alloc (.cells (Builtin.zeroCells (Value.agg #[.int .i64 0, .int .i64 0, .string ⟨#[]⟩]).cells n ++ Builtin.zeroCells (Value.agg #[.int .i64 0, .int .i64 0, .string ⟨#[]⟩]).cells (G - n)) 46)).ownsRow w.heap.size 46 3 (.slice (some ⟨w.heap.size, 0, none⟩) 0 G) 0 [] := by
      refine ⟨rfl, .inr ⟨w.heap.size, G, _, rfl, Nat.le_refl _, heap_alloc_new w.drew _, Nat.zero_le _, HG2.out, ?_, by simp⟩⟩
      rw [Array.size_append, size_zeroCells, size_zeroCells, show ((Value.agg #[.int .i64 0, .int .i64 0, .string ⟨#[]⟩]).cells).size = 3 from rfl]
      have := HG1.out
      omega
    have HO := Lib.hid hown
    have HB := Lib.hid ((Below.refl w.heap.size w).drew.alloc (Nat.le_refl _) (.cells (Builtin.zeroCells (Value.agg #[.int .i64 0, .int .i64 0, .string ⟨#[]⟩]).cells n ++ Builtin.zeroCells (Value.agg #[.int .i64 0, .int .i64 0, .string ⟨#[]⟩]).cells (G - n)) 46))
    have HR := Lib.hid hr
    clear hr hown h0
    go_enter Tryd.func95, Tryd.ntmps95
    go_wp2_with (at_builtin; refine Lib.wpList_append_run _ rfl _ _ _ _ rfl _ _ rfl rfl _ _ (HR.out _) ?_)
    go_ret
    exact ⟨_, rfl, HO.out, HB.out⟩

/-- where the first loop stands -/
def CatN (a b : List Ed) (vs vi : Value) : Prop := (vi = .int .i64 0 ∧ vs = .int .i64 0) ∨ (vi = .int .i64 1 ∧ vs = .int .i64 a.length) ∨ (vi = .int .i64 2 ∧ vs = .int .i64 ((a.length : Int) + b.length))
/-- where the second loop stands -/
def CatL (B : Nat) (a b : List Ed) (v vi : Value) (w : World) : Prop := (vi = .int .i64 0 ∧ w.ownsRow B 46 3 v 0 []) ∨ (vi = .int .i64 1 ∧ w.ownsRow B 46 3 v a.length (cellsE a)) ∨ (vi = .int .i64 2 ∧ w.ownsRow B 46 3 v (a.length + b.length) (cellsE (a ++ b)))

/-- a list of edits put behind a row that the call owns: whatever the list's address -/
def Put (B : Nat) (A : Option Addr) (l : List Ed) (c : Nat) (w : World) : Prop := (A = none → l = [] ∧ c = 0) ∧ ESl w B A l

set_option maxHeartbeats 2000000 in
set_option maxRecDepth 100000 in
theorem concatE_any (g0 : Nat) (A A2 : Option Addr) (a b : List Ed) (c c2 : Nat) (w : World) (ha : a.length ≤ 100000) (hb : b.length ≤ 100000) (hA : A = none → a = [] ∧ c = 0) (hA2 : A2 = none → b = [] ∧ c2 = 0)
    (hp0 : w.cell? ⟨g0, 0, none⟩ = some (.slice A a.length c)) (hp1 : w.cell? ⟨g0, 1, none⟩ = some (.slice A2 b.length c2)) (hg0 : g0 < w.heap.size) (h1 : ESl w w.heap.size A a) (h2 : ESl w w.heap.size A2 b) :
    Calls Tryd.prog 64 #[.slice (some ⟨g0, 0, none⟩) 2 2] w fun e w' => ∃ v', e = .returned v' ∧ w'.ownsRow w.heap.size 46 3 v' (a ++ b).length (cellsE (a ++ b)) ∧ Below w.heap.size w w' := by
  obtain ⟨i0, hi, hz0, hz1, hz2⟩ := info_parts infoEd
  have hc0 := fun (W : World) (hW : Below w.heap.size w W) => (⟨(hW.cell (p := ⟨g0, 0, none⟩) hg0).trans hp0, (hW.cell (p := ⟨g0, 1, none⟩) hg0).trans hp1⟩ : W.cell? ⟨g0, 0, none⟩ = some (.slice A a.length c) ∧ W.cell? ⟨g0, 1, none⟩ = some (.slice A2 b.length c2))
  have HC0 := Lib.hid hc0
  have HA := Lib.hid h1
  have HA2 := Lib.hid h2
  have HN1 := Lib.hid hA
  have HN2 := Lib.hid hA2
  clear hc0 h1 h2 hA hA2 hp0 hp1
  have hab : ((a.length : Int) + b.length) = ((a.length + b.length : Nat) : Int) := by omega
  have HAB := Lib.hid hab
  clear hab
  go_enter Tryd.func64, Tryd.ntmps64
  go_wp2
  go_loopw [3, 11] (fun vs vi wr => CatN a b vs vi ∧ Below w.heap.size w wr) (fun _ vi _ => 2 - (intOf vi).toNat)
  case atStart => exact ⟨.inl ⟨rfl, rfl⟩, Below.refl _ _⟩
  case round =>
    obtain ⟨hN, hb⟩ := hrel
    obtain ⟨c0, c1⟩ := HC0.out wr hb
    rcases hN with ⟨rfl, rfl⟩ | ⟨rfl, rfl⟩ | ⟨rfl, rfl⟩
    · go_wp2
      go_roundw
      case rel => exact ⟨.inr (.inl ⟨rfl, rfl⟩), hb⟩
      case measure => simp [intOf]
    · go_wp2
      go_roundw
      case rel => exact ⟨.inr (.inr ⟨rfl, rfl⟩), hb⟩
      case measure => simp [intOf]
    · have hgr := growE_any (a.length + b.length) wr (by omega)
      rw [← HAB.out] at hgr
      have HG := Lib.hid hgr
      have HB := Lib.hid hb
      clear hgr hb c0 c1
      go_wp2_with fail
      refine HG.out.mono ?_
      rintro e w2 ⟨v2, rfl, ho2, hb2⟩
      have HB2 := Lib.hid (HB.out.trans (hb2.mono HB.out.size))
      have HO2 := Lib.hid (show w2.ownsRow w.heap.size 46 3 v2 0 [] from by
        refine ⟨ho2.1, ?_⟩
        rcases ho2.2 with h | ⟨g, cap, cur, e1, e2, e3⟩
        · exact .inl h
        · exact .inr ⟨g, cap, cur, e1, by have := HB.out.size; omega, e3⟩)
      clear ho2 hb2
      go_wp2
      go_loopw [6, 27] (fun vl vi wr => CatL w.heap.size a b vl vi wr ∧ Below w.heap.size w wr) (fun _ vi _ => 2 - (intOf vi).toNat)
      case atStart => exact ⟨.inl ⟨rfl, HO2.out⟩, HB2.out⟩
      case round =>
        obtain ⟨hL, hb⟩ := hrel
        obtain ⟨c0, c1⟩ := HC0.out wr hb
        have hbs := hb.size
        rcases hL with ⟨rfl, ho⟩ | ⟨rfl, ho⟩ | ⟨rfl, ho⟩
        · have HO := Lib.hid ho
          clear ho
          rcases A with _ | ad
          · have hrun : ∀ ty, (Builtin.append_ #[30, 30] ty #[u6, .slice none a.length c]).run Tryd.prog wr = .ok u6 wr := fun ty => by
              obtain ⟨e1, e2⟩ := HN1.out rfl
              rw [e1, e2]
              exact run_append_owned_none (P := Tryd.prog) (w := wr) w.heap.size 30 ty 46 i0 3 Tryd.underlying30 hi u6 0 [] HO.out
            have HRUN := Lib.hid hrun
            have HO7 := Lib.hid (show wr.ownsRow w.heap.size 46 3 u6 a.length (cellsE a) by rw [(HN1.out rfl).1]; exact HO.out)
            clear hrun HO
            go_wp2_with (at_builtin; refine Lib.wpList_append_run _ rfl (.tmp 31) (.tmp 32) _ _ rfl _ _ rfl rfl _ _ (HRUN.out _) ?_)
            go_roundw
            case rel => exact ⟨.inr (.inl ⟨rfl, HO7.out⟩), hb⟩
            case measure => simp [intOf]
          · have HNN := Lib.hid (Rd.at_add (HA.out.below hb))
            go_wp2_with (at_builtin; refine wpList_append_own _ rfl (.tmp 31) (.tmp 32) 30 rfl w.heap.size 46 i0 _ 3 32 Tryd.underlying30 hi hz0 hz1 hz2 rfl (by decide) _ 0 [] rfl HO.out ad a.length c (cellsE a) rfl (cellsE_length a) HNN.out (fun u hu => cellsE_one hu) (by unfold maxLen; omega) (by omega) hbs ?_; intro v7 w7 hown7 hg7 _)
            have HB7 := Lib.hid (hb.grown hg7 hbs (fun k e => (HO.out.lt k e).1))
            simp only [Nat.zero_add, List.nil_append] at hown7
            have HO7 := Lib.hid hown7
            clear hown7 hg7 HO HNN hb
            go_wp2
            go_roundw
            case rel => exact ⟨.inr (.inl ⟨rfl, HO7.out⟩), HB7.out⟩
            case measure => simp [intOf]
        · have HO := Lib.hid ho
          clear ho
          rcases A2 with _ | ad
          · have hrun : ∀ ty, (Builtin.append_ #[30, 30] ty #[u6, .slice none b.length c2]).run Tryd.prog wr = .ok u6 wr := fun ty => by
              obtain ⟨e1, e2⟩ := HN2.out rfl
              rw [e1, e2]
              exact run_append_owned_none (P := Tryd.prog) (w := wr) w.heap.size 30 ty 46 i0 3 Tryd.underlying30 hi u6 a.length (cellsE a) HO.out
            have HRUN := Lib.hid hrun
            have HO7 := Lib.hid (show wr.ownsRow w.heap.size 46 3 u6 (a.length + b.length) (cellsE (a ++ b)) by rw [(HN2.out rfl).1, List.append_nil]; exact HO.out)
            clear hrun HO
            go_wp2_with (at_builtin; refine Lib.wpList_append_run _ rfl (.tmp 31) (.tmp 32) _ _ rfl _ _ rfl rfl _ _ (HRUN.out _) ?_)
            go_roundw
            case rel => exact ⟨.inr (.inr ⟨rfl, HO7.out⟩), hb⟩
            case measure => simp [intOf]
          · have HNN := Lib.hid (Rd.at_add (HA2.out.below hb))
            go_wp2_with (at_builtin; refine wpList_append_own _ rfl (.tmp 31) (.tmp 32) 30 rfl w.heap.size 46 i0 _ 3 32 Tryd.underlying30 hi hz0 hz1 hz2 rfl (by decide) _ a.length (cellsE a) rfl HO.out ad b.length c2 (cellsE b) rfl (cellsE_length b) HNN.out (fun u hu => cellsE_one hu) (by unfold maxLen; omega) (by omega) hbs ?_; intro v7 w7 hown7 hg7 _)
            have HB7 := Lib.hid (hb.grown hg7 hbs (fun k e => (HO.out.lt k e).1))
            rw [← cellsE_append] at hown7
            have HO7 := Lib.hid hown7
            clear hown7 hg7 HO HNN hb
            go_wp2
            go_roundw
            case rel => exact ⟨.inr (.inr ⟨rfl, HO7.out⟩), HB7.out⟩
            case measure => simp [intOf]
        · have HO := Lib.hid ho
          clear ho
          go_wp2
          go_ret
          exact ⟨_, rfl, by rw [List.length_append]; exact HO.out, hb⟩

end Go.Proofs.YtgpmodbndngcoaaDoor

namespace Go.Proofs.YtgpmodbndngcoaaDoor
open Go.RowKit Go.Maps

/-- the error of two lists of edits together -/
def mergF (n : Nat) (a b : List Ed) : Int := if fineF n a ≠ 0 then fineF n a else if fineF n b ≠ 0 then fineF n b else fineF n (a ++ b)
def mergL (n : Nat) (a b : List Ed) : List Ed := if mergF n a b = 0 then ordF (a ++ b) else []

theorem mergF_zero {n : Nat} {a b : List Ed} (h : mergF n a b = 0) : fineF n a = 0 ∧ fineF n b = 0 ∧ fineF n (a ++ b) = 0 := by
  unfold mergF at h
  by_cases h1 : fineF n a ≠ 0
  · rw [if_pos h1] at h; exact absurd h h1
  · rw [if_neg h1] at h
    by_cases h2 : fineF n b ≠ 0
    · rw [if_pos h2] at h; exact absurd h h2
    · rw [if_neg h2] at h
      exact ⟨Classical.not_not.1 h1, Classical.not_not.1 h2, h⟩

set_option maxHeartbeats 2000000 in
set_option maxRecDepth 100000 in
theorem merge_any (s : ByteArray) (va vb : Value) (a b : List Ed) (w : World) (hs : s.size ≤ 140737488355328) (ha : a.length ≤ 100000) (hb : b.length ≤ 100000) (h1 : IsE w va a) (h2 : IsE w vb b) :
    Calls Tryd.prog 26 #[.string s, va, vb] w fun e w' => ∃ v', e = .returned (.tuple #[v', .int .i64 (mergF s.size a b)]) ∧ IsE w' v' (mergL s.size a b) ∧ Below w.heap.size w w' := by
  have f1 := textFine_any s va a w hs (by omega) h1
  have f2 := fun W (hW : Below w.heap.size w W) => textFine_any s vb b W hs (by omega) (IsE.below h2 hW)
  by_cases z1 : fineF s.size a = 0
  · by_cases z2 : fineF s.size b = 0
    · obtain ⟨A, c, rfl, hA, k1, k2, hE⟩ := h1
      obtain ⟨A2, c2, rfl, hA2, k3, k4, hE2⟩ := h2
      have hm : mergF s.size a b = fineF s.size (a ++ b) := by unfold mergF; rw [if_neg (fun g => g z1), if_neg (fun g => g z2)]
      have hml : mergL s.size a b = fineL s.size (a ++ b) := by unfold mergL fineL; rw [hm]
      rw [hm, hml]
      rw [z1] at f1
      rw [z2] at f2
      have hfe := fun v W => fineEdits_any s v (a ++ b) W hs (by rw [List.length_append]; omega)
      generalize fineF s.size (a ++ b) = E at *
      generalize fineL s.size (a ++ b) = L at *
      have F1 := Lib.hid f1
      have F2 := Lib.hid f2
      have HFE := Lib.hid hfe
      have HE := Lib.hid hE
      have HE2 := Lib.hid hE2
      have HNA := Lib.hid hA
      have HNA2 := Lib.hid hA2
      clear f1 f2 hfe hE hE2 hA hA2 hm hml z1 z2
      go_enter Tryd.func26, Tryd.ntmps26
      go_wp2_with fail
      refine F1.out.mono ?_
      rintro e w1 ⟨rfl, hb1⟩
      have HB1 := Lib.hid hb1
      clear hb1
      go_wp2_with fail
      refine (F2.out _ HB1.out).mono ?_
      rintro e w2 ⟨rfl, hb2⟩
      have HB2 := Lib.hid (HB1.out.trans (hb2.mono HB1.out.size))
      have hbs2 := HB2.out.size
      clear hb2 HB1
      go_wp2_with fail
      have hb3 := HB2.out.alloc hbs2 (.cells #[.slice A a.length c, .slice A2 b.length c2] 30)
      have hxb := heap_alloc_new w2 (.cells #[.slice A a.length c, .slice A2 b.length c2] 30)
      have hcc := concatE_any w2.heap.size A A2 a b c c2 (w2.alloc (.cells #[.slice A a.length c, .slice A2 b.length c2] 30)) ha hb HNA.out HNA2.out (cell_of_row _ _ 0 _ _ (0, 0) hxb) (cell_of_row _ _ 1 _ _ (0, 0) hxb) (by simp) ((HE.out.below hb3).more hb3.size) ((HE2.out.below hb3).more hb3.size)
      refine hcc.mono ?_
      rintro e w3 ⟨v3, rfl, ho3, hb4⟩
      have hI3 := IsE.of_own rfl ho3
      have HB4 := Lib.hid (hb3.trans (hb4.mono hb3.size))
      have HF3 := Lib.hid (HFE.out v3 w3 hI3)
      clear hcc hxb hb3 ho3 hb4 hI3
      go_wp2_with fail
      refine HF3.out.mono ?_
      rintro e w4 ⟨v4, rfl, hI4, hb5⟩
      have HB5 := Lib.hid (HB4.out.trans (hb5.mono HB4.out.size))
      have HI4 := Lib.hid hI4
      clear hI4 hb5
      go_wp2
      go_ret2
      exact ⟨_, rfl, HI4.out, HB5.out⟩
    · have hm : mergF s.size a b = fineF s.size b := by unfold mergF; rw [if_neg (fun g => g z1), if_pos z2]
      have hml : mergL s.size a b = [] := by unfold mergL; rw [hm, if_neg z2]
      rw [hm, hml]
      rw [z1] at f1
      generalize fineF s.size b = E at *
      have hne : (E != 0) = true := by simp [z2]
      have F1 := Lib.hid f1
      have F2 := Lib.hid f2
      clear f1 f2 h1 h2 hm hml z1 z2
      go_enter Tryd.func26, Tryd.ntmps26
      go_wp2_with fail
      refine F1.out.mono ?_
      rintro e w1 ⟨rfl, hb1⟩
      have HB1 := Lib.hid hb1
      clear hb1
      go_wp2_with fail
      refine (F2.out _ HB1.out).mono ?_
      rintro e w2 ⟨rfl, hb2⟩
      have HB2 := Lib.hid (HB1.out.trans (hb2.mono HB1.out.size))
      clear hb2
      go_wp2
      go_ret2
      exact ⟨_, rfl, IsE.nil _, HB2.out⟩
  · have hm : mergF s.size a b = fineF s.size a := by unfold mergF; rw [if_pos z1]
    have hml : mergL s.size a b = [] := by unfold mergL; rw [hm, if_neg z1]
    rw [hm, hml]
    generalize fineF s.size a = E at *
    have hne : (E != 0) = true := by simp [z1]
    have F1 := Lib.hid f1
    clear f1 f2 h1 h2 hm hml z1
    go_enter Tryd.func26, Tryd.ntmps26
    go_wp2_with fail
    refine F1.out.mono ?_
    rintro e w1 ⟨rfl, hb1⟩
    go_wp2
    go_ret2
    exact ⟨_, rfl, IsE.nil _, hb1⟩

end Go.Proofs.YtgpmodbndngcoaaDoor
