/- TextLines: the walk of the law. -/
import Derived.Test.YthebooikmkegcaaDoorEq
import Derived.Test.YthebooikmkegcaaDoorStep
namespace Go.Proofs.YthebooikmkegcaaDoor
open Go.RowKit Go.Maps

theorem strs_of_own' {w : World} {base n : Nat} {v : Value} {l : List ByteArray} (hn : n = l.length) (h : w.ownsRow base 9 1 v n (l.map Value.string)) : ∃ A' c', v = .slice A' l.length c' ∧ Rd w w.heap.size A' (l.map Value.string) := by
  subst hn
  rcases h.2 with ⟨e, e0⟩ | ⟨g, cap, cur, e, hb, hg, hn, hc, hs, ht⟩
  · have : l = [] := List.eq_nil_of_length_eq_zero e0
    subst this
    exact ⟨none, 0, e, fun hl => by simp at hl⟩
  · refine ⟨some ⟨g, 0, none⟩, cap, e, fun hl => ?_⟩
    obtain ⟨b, off, e2, h2, h3⟩ := Rd.of_own (A := some ⟨g, 0, none⟩) (c := cap) (by rw [← e]; exact h) hl
    exact ⟨b, off, e2, h2, h3⟩

theorem linesL_length_le : ∀ s, (linesL s).length ≤ s.length
  | [] => by simp [linesL]
  | c :: s => by
    have ih := linesL_length_le s
    rw [linesL]
    split
    · simp only [List.length_cons]; omega
    · split
      · simp
      · rename_i l r e
        rw [e] at ih
        simp only [List.length_cons] at *; omega

theorem linesB_length_le (s : ByteArray) : (linesB s).length ≤ s.size := by
  have := linesL_length_le s.data.toList
  unfold linesB
  rw [List.length_map]
  have e : s.data.toList.length = s.size := by simp
  omega

/-- the place's three parts -/
theorem placeV_parts (s : ByteArray) (at_ : Int) : ∃ x y z, placeV s at_ = .tuple #[.int .i64 x, .int .i64 y, .int .i64 z] := by
  unfold placeV
  split
  · exact ⟨_, _, _, rfl⟩
  · exact ⟨_, _, _, rfl⟩

set_option maxHeartbeats 2000000 in
set_option maxRecDepth 100000 in
theorem textLines_any (haw : ∀ W, Tab W → Calls Tryd.prog 14 #[] W fun e w' => e = .returned (.bool true) ∧ Below W.heap.size W w')
    (s : ByteArray) (at_ : Int) (w : World) (h1 : -9223372036854775808 ≤ at_) (h2 : at_ ≤ 9223372036854775807) (ht : Tab w) :
    Calls Tryd.prog 3 #[.string s, .int .i64 at_] w fun e w' => e = .returned (.bool true) ∧ Below w.heap.size w w' := by
  by_cases hs : s.size ≤ 4000
  · obtain ⟨x, y, z, hp⟩ := placeV_parts s at_
    have hll := linesB_length_le s
    have p1 := fun W => place_any s at_ W (by omega) h1 h2
    have p2 := fun W => refPlace_any s at_ W (by omega) h1 h2
    rw [hp] at p1 p2
    have P1 := Lib.hid p1
    have P2 := Lib.hid p2
    have L1 := Lib.hid (fun W => lines_any s (by omega) W)
    have L2 := Lib.hid (fun W => refLines_any s (by omega) W)
    have HT := Lib.hid ht
    have HAW := Lib.hid haw
    clear p1 p2 hp ht haw
    go_enter Tryd.func3, Tryd.ntmps3
    go_wp2_with (first
      | (go_at_call 9; refine (P1.out _).mono ?_; rintro e w1 ⟨rfl, hb1⟩)
      | (go_at_call 10; refine (P2.out _).mono ?_; rintro e w2 ⟨rfl, hb2⟩))
    refine (L1.out _).mono ?_
    rintro e w3 ⟨v3, rfl, hO3, hb3⟩
    obtain ⟨A3, c3, rfl, hR3⟩ := strs_of_own' rfl hO3
    have hb13 := hb1.trans ((hb2.trans (hb3.mono hb2.size)).mono hb1.size)
    have H13 := Lib.hid hb13
    have HR3 := Lib.hid hR3
    clear hO3 hR3 hb13 hb1 hb2 hb3
    go_wp2_with fail
    refine (L2.out _).mono ?_
    rintro e w4 ⟨v4, rfl, hO4, hb4⟩
    obtain ⟨A4, c4, rfl, hR4⟩ := strs_of_own' rfl hO4
    have eq0 := eqStrings_any A3 A4 c3 c4 (linesB s) (linesB s) w4 (by omega) (by omega) ((HR3.out.below hb4).more hb4.size) hR4
    rw [show decide (linesB s = linesB s) = true by simp] at eq0
    have EQ := Lib.hid eq0
    have H14 := Lib.hid (H13.out.trans (hb4.mono H13.out.size))
    clear hO4 hR4 hb4 HR3 H13 eq0
    go_wp2_with fail
    refine EQ.out.mono ?_
    rintro e w5 ⟨rfl, hb5⟩
    have H15 := Lib.hid (H14.out.trans (hb5.mono H14.out.size))
    have A5 := Lib.hid (HAW.out w5 (HT.out.below H15.out))
    clear hb5 H14 EQ
    go_wp2_with fail
    refine A5.out.mono ?_
    rintro e w6 ⟨rfl, hb6⟩
    have H16 := Lib.hid (H15.out.trans (hb6.mono H15.out.size))
    clear hb6 H15 A5
    go_wp2
    go_ret
    exact ⟨rfl, H16.out⟩
  · go_enter Tryd.func3, Tryd.ntmps3
    go_wp2
    go_ret
    exact ⟨rfl, Below.refl _ _⟩

end Go.Proofs.YthebooikmkegcaaDoor
