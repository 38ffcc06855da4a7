/- LexNames: the walk of the law. -/
import Derived.Test.YtcbmkkndbeiknaaDoorLexJ
namespace Go.Proofs.YtcbmkkndbeiknaaDoor
open Go.RowKit Go.Maps Go.Shelf

theorem strRd {w : World} {base n : Nat} {v : Value} {l : List ByteArray} (hn : n = l.length) (h : w.ownsRow base 9 1 v n (l.map Value.string)) : ∃ A' c', v = .slice A' l.length c' ∧ Rd w w.heap.size A' (l.map Value.string) := by
  subst hn
  rcases h.2 with ⟨e, e0⟩ | ⟨g, cap, cur, e, hb, hg, hn, hc, hs, ht⟩
  · have : l = [] := List.eq_nil_of_length_eq_zero e0
    subst this
    exact ⟨none, 0, e, fun hl => by simp at hl⟩
  · refine ⟨some ⟨g, 0, none⟩, cap, e, fun hl => ?_⟩
    obtain ⟨b, off, e2, h2, h3⟩ := Rd.of_own (A := some ⟨g, 0, none⟩) (c := cap) (by rw [← e]; exact h) hl
    exact ⟨b, off, e2, h2, h3⟩

theorem signsRd (w : World) : Rd (w.alloc (.cells signsV 9)) (w.alloc (.cells signsV 9)).heap.size (some ⟨w.heap.size, 0, none⟩) (signsB.map Value.string) := fun _ =>
  ⟨w.heap.size, 0, rfl, by simp, fun j u hu => by
    rw [Nat.zero_add, Blk.cell (Blk.new w 9 signsV)]
    unfold signsV
    simpa using hu⟩

/-- both lists of keys are alike -/
theorem eqKeys (w : World) (v : Value) (h : w.ownsRow w.heap.size 9 1 v 28 (keysB.map Value.string) ∨ ∃ b, w.ownsRow b 9 1 v 28 (keysB.map Value.string)) :
    Calls Tryd.prog 27 #[v, .slice (some ⟨w.heap.size, 0, none⟩) 28 28] (w.alloc (.cells keysV 9)) fun e w' => e = .returned (.bool true) ∧ Below w.heap.size w w' := by
  obtain ⟨b, h⟩ : ∃ b, w.ownsRow b 9 1 v 28 (keysB.map Value.string) := by
    rcases h with h | h
    · exact ⟨_, h⟩
    · exact h
  obtain ⟨A, c, rfl, hR⟩ := strRd keysB_len.symm h
  have hb : Below w.heap.size w (w.alloc (.cells keysV 9)) := (Below.refl _ _).alloc (Nat.le_refl _) _
  have := eqStr_any A (some ⟨w.heap.size, 0, none⟩) c 28 keysB keysB (w.alloc (.cells keysV 9)) (by rw [keysB_len]; decide) (by rw [keysB_len]; decide) ((hR.below hb).more hb.size) (keysRd w)
  rw [decide_eq_true rfl, keysB_len] at this
  rw [keysB_len]
  exact this.mono fun e w' ⟨h1, h2⟩ => ⟨h1, hb.trans (h2.mono hb.size)⟩
theorem eqSigns (w : World) (v : Value) (b : Nat) (h : w.ownsRow b 9 1 v 47 (signsB.map Value.string)) :
    Calls Tryd.prog 27 #[v, .slice (some ⟨w.heap.size, 0, none⟩) 47 47] (w.alloc (.cells signsV 9)) fun e w' => e = .returned (.bool true) ∧ Below w.heap.size w w' := by
  obtain ⟨A, c, rfl, hR⟩ := strRd signsB_len.symm h
  have hb : Below w.heap.size w (w.alloc (.cells signsV 9)) := (Below.refl _ _).alloc (Nat.le_refl _) _
  have := eqStr_any A (some ⟨w.heap.size, 0, none⟩) c 47 signsB signsB (w.alloc (.cells signsV 9)) (by rw [signsB_len]; decide) (by rw [signsB_len]; decide) ((hR.below hb).more hb.size) (signsRd w)
  rw [decide_eq_true rfl, signsB_len] at this
  rw [signsB_len]
  exact this.mono fun e w' ⟨h1, h2⟩ => ⟨h1, hb.trans (h2.mono hb.size)⟩

theorem chainL {B : Nat} {a b c : World} (h : Below B a b) (k : Below b.heap.size b c) (hB : B ≤ b.heap.size) : Below B a c := h.trans (k.mono hB)

set_option maxHeartbeats 4000000 in
set_option maxRecDepth 100000 in
theorem lexNames_any (n0 : Nat) (s : ByteArray) (w : World) (hs : s.size ≤ 140737488355328) (hG : LexG n0 w) :
    Calls Tryd.prog 6 #[.string s] w fun e w' => e = .returned (.bool true) ∧ Below w.heap.size w w' := by
  have C1 := isName_any n0 s w hs hG.keys
  have C2 := fun W => refIsName_any s W hs
  have C3 := fun W (h : LexG n0 W) => keysOf_any n0 W h.le h.keys
  have C4 := fun W (h : LexG n0 W) => signsOf_any n0 W h.le h.signs
  have C5 := fun W (h : LexG n0 W) => awakeL_any n0 W h
  generalize isNameF s = b at *
  have HC1 := Lib.hid C1
  have HC2 := Lib.hid C2
  have HC3 := Lib.hid C3
  have HC4 := Lib.hid C4
  have HC5 := Lib.hid C5
  have HG := Lib.hid hG
  clear C1 C2 C3 C4 C5 hG
  go_enter Tryd.func6, Tryd.ntmps6
  go_wp2_with fail
  refine HC1.out.mono ?_
  rintro e w1 ⟨rfl, hw1⟩
  subst hw1
  go_wp2_with fail
  refine (HC2.out _).mono ?_
  rintro e w2 ⟨rfl, hb2⟩
  have HB2 := Lib.hid hb2
  clear hb2 HC1 HC2
  go_wp2_with fail
  refine (HC3.out _ (HG.out.below HB2.out)).mono ?_
  rintro e w3 ⟨v3, rfl, hO3, hb3⟩
  have HB3 := Lib.hid (HB2.out.trans (hb3.mono HB2.out.size))
  have HO3 := Lib.hid hO3
  clear hb3 hO3 HB2 HC3
  go_wp2_with fail
  refine (refKeys_any _).mono ?_
  rintro e w4 ⟨rfl, rfl⟩
  have E1 := Lib.hid (eqKeys w3 v3 (.inr ⟨_, HO3.out⟩))
  clear HO3
  go_wp2_with fail
  refine E1.out.mono ?_
  rintro e w5 ⟨rfl, hb5⟩
  have HB5 := Lib.hid (HB3.out.trans (hb5.mono HB3.out.size))
  clear hb5 HB3 E1
  go_wp2_with fail
  refine (HC4.out _ (HG.out.below HB5.out)).mono ?_
  rintro e w6 ⟨v6, rfl, hO6, hb6⟩
  have HB6 := Lib.hid (HB5.out.trans (hb6.mono HB5.out.size))
  have HO6 := Lib.hid hO6
  clear hb6 hO6 HB5 HC4
  go_wp2_with fail
  refine (refSigns_any _).mono ?_
  rintro e w7 ⟨rfl, rfl⟩
  have E2 := Lib.hid (eqSigns w6 v6 _ HO6.out)
  clear HO6
  go_wp2_with fail
  refine E2.out.mono ?_
  rintro e w8 ⟨rfl, hb8⟩
  have HB8 := Lib.hid (HB6.out.trans (hb8.mono HB6.out.size))
  clear hb8 HB6 E2
  go_wp2_with fail
  refine (HC5.out _ (HG.out.below HB8.out)).mono ?_
  rintro e w9 ⟨rfl, hb9⟩
  have HB9 := Lib.hid (HB8.out.trans (hb9.mono HB8.out.size))
  clear hb9 HB8 HC5
  go_wp2
  go_ret
  exact ⟨rfl, HB9.out⟩

end Go.Proofs.YtcbmkkndbeiknaaDoor
