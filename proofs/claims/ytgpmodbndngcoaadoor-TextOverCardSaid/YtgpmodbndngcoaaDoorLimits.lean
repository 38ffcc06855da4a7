import Derived.Test.YtgpmodbndngcoaaDoorMore
namespace Go.Proofs.YtgpmodbndngcoaaDoor
open Go.RowKit Go.Shelf

def limF (s : ByteArray) : Bool := decide (s.size ≤ 200000) && decide ((linesB s).length ≤ 2000)

theorem limF_small (s : ByteArray) (h : s.size ≤ 200000) : limF s = !decide (2000 < (linesB s).length) := by
  unfold limF
  rw [decide_eq_true h, Bool.true_and]
  by_cases g : (linesB s).length ≤ 2000
  · rw [decide_eq_true g, decide_eq_false (by omega)]; rfl
  · rw [decide_eq_false g, decide_eq_true (by omega)]; rfl

set_option maxHeartbeats 1000000 in
set_option maxRecDepth 100000 in
theorem withinLimits_any (a b : ByteArray) (w : World) (ha : a.size ≤ 8000000) (hb : b.size ≤ 8000000) :
    Calls Tryd.prog 70 #[.string a, .string b] w fun e w' => e = .returned (.bool (limF a && limF b)) ∧ Below w.heap.size w w' := by
  have i0 : ∀ w, (Instr.index 118 (.agg #[.string a, .string b]) (.int .i64 0)).run Tryd.prog w = .ok (.string a) w := fun _ => rfl
  have i1 : ∀ w, (Instr.index 118 (.agg #[.string a, .string b]) (.int .i64 1)).run Tryd.prog w = .ok (.string b) w := fun _ => rfl
  go_enter Tryd.func70, Tryd.ntmps70
  go_wp2
  go_loopw [10] (fun i wr => ∃ k : Nat, k ≤ 2 ∧ i = .int .i64 k ∧ (0 < k → limF a = true) ∧ (1 < k → limF b = true) ∧ Below w.heap.size w wr) (fun i _ => 2 - (intOf i).toNat)
  case atStart => exact ⟨0, by omega, rfl, by omega, by omega, Below.refl _ _⟩
  case round =>
    obtain ⟨k, hk, rfl, h1, h2, hb0⟩ := hrel
    have HA := Lib.hid h1
    have HB := Lib.hid h2
    clear h1 h2
    rcases (by omega : k = 0 ∨ k = 1 ∨ k = 2) with rfl | rfl | rfl
    · by_cases q : 200000 < a.size
      · have e : limF a = false := by unfold limF; rw [decide_eq_false (by omega)]; rfl
        have HE := Lib.hid e
        clear e
        go_wp2
        go_ret
        exact ⟨ret_bool (by rw [HE.out]; rfl), hb0⟩
      · have e := limF_small a (by omega)
        have hm := moreLines_any a ha 2000 (by omega) wr
        cases q2 : decide (2000 < (linesB a).length)
        · rw [q2] at e hm
          have HE := Lib.hid e
          have HM := Lib.hid hm
          clear e hm q2
          go_wp2_with (go_at_call 103; refine HM.out.mono ?_; rintro e w1 ⟨rfl, hb1⟩)
          go_roundw
          case rel => exact ⟨1, by omega, rfl, fun _ => HE.out, by omega, (hb0.trans (hb1.mono hb0.size))⟩
          case measure => simp [intOf]
        · rw [q2] at e hm
          have HE := Lib.hid e
          have HM := Lib.hid hm
          clear e hm q2
          go_wp2_with (go_at_call 103; refine HM.out.mono ?_; rintro e w1 ⟨rfl, hb1⟩)
          go_ret
          exact ⟨ret_bool (by rw [HE.out]; rfl), hb0.trans (hb1.mono hb0.size)⟩
    · by_cases q : 200000 < b.size
      · have e : limF b = false := by unfold limF; rw [decide_eq_false (by omega)]; rfl
        have HE := Lib.hid e
        clear e
        go_wp2
        go_ret
        exact ⟨ret_bool (by rw [HE.out]; simp), hb0⟩
      · have e := limF_small b (by omega)
        have hm := moreLines_any b hb 2000 (by omega) wr
        cases q2 : decide (2000 < (linesB b).length)
        · rw [q2] at e hm
          have HE := Lib.hid e
          have HM := Lib.hid hm
          clear e hm q2
          go_wp2_with (go_at_call 103; refine HM.out.mono ?_; rintro e w1 ⟨rfl, hb1⟩)
          go_roundw
          case rel => exact ⟨2, by omega, rfl, fun _ => HA.out (by omega), fun _ => HE.out, (hb0.trans (hb1.mono hb0.size))⟩
          case measure => simp [intOf]
        · rw [q2] at e hm
          have HE := Lib.hid e
          have HM := Lib.hid hm
          clear e hm q2
          go_wp2_with (go_at_call 103; refine HM.out.mono ?_; rintro e w1 ⟨rfl, hb1⟩)
          go_ret
          exact ⟨ret_bool (by rw [HE.out]; simp), hb0.trans (hb1.mono hb0.size)⟩
    · go_wp2
      go_ret
      exact ⟨ret_bool (by rw [HA.out (by omega), HB.out (by omega)]; rfl), hb0⟩

end Go.Proofs.YtgpmodbndngcoaaDoor
