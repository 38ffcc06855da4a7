/- EqEdits: whether two lists of edits are the same. -/
import Derived.Test.YtgpmodbndngcoaaDoorCompact
namespace Go.Proofs.YtgpmodbndngcoaaDoor
open Go.RowKit Go.Maps

set_option maxHeartbeats 1000000 in
set_option maxRecDepth 100000 in
theorem eqEdits_any (A A2 : Option Addr) (c c2 : Nat) (a b : List Ed) (w : World) (ha : a.length ≤ 1000000) (hb : b.length ≤ 1000000) (h1 : ESl w w.heap.size A a) (h2 : ESl w w.heap.size A2 b) :
    Calls Tryd.prog 25 #[.slice A a.length c, .slice A2 b.length c2] w fun e w' => e = .returned (.bool (decide (a = b))) ∧ Below w.heap.size w w' := by
  have H1 := Lib.hid h1
  have H2 := Lib.hid h2
  clear h1 h2
  go_enter Tryd.func25, Tryd.ntmps25
  by_cases hl : a.length = b.length
  · have hlI : (a.length : Int) = b.length := by omega
    go_wp2
    have HLL := Lib.hid hl
    clear hl hlI
    go_loopw [5] (fun vi wr => ∃ k : Nat, k ≤ a.length ∧ vi = .int .i64 k ∧ Hid (a.take k = b.take k) ∧ Below w.heap.size w wr) (fun vi _ => a.length - (intOf vi).toNat)
    case atStart => exact ⟨0, Nat.zero_le _, rfl, rfl, Below.refl _ _⟩
    case round =>
      obtain ⟨k, hk, rfl, hT, hB⟩ := hrel
      by_cases hlt : k < a.length
      · have hltb : k < b.length := by have := HLL.out; omega
        obtain ⟨b1, off1, e1, hB1, c0, c1, c2⟩ := (H1.out.below hB).at_ k hlt
        obtain ⟨b2, off2, e2, hB2, d0, d1, d2⟩ := (H2.out.below hB).at_ k hltb
        cases e1
        cases e2
        have t1 := List.take_succ_eq_append_getElem hlt
        have t2 := List.take_succ_eq_append_getElem hltb
        have hne : ¬ a[k] = b[k] → decide (a = b) = false := fun h => by
          simp only [decide_eq_false_iff_not]
          rintro rfl
          exact h rfl
        generalize a[k] = x1 at *
        generalize b[k] = y1 at *
        have hnq := fun W => run_neqEd x1 y1 W
        have HT1 := Lib.hid t1
        have HT2 := Lib.hid t2
        have HNE := Lib.hid hne
        clear t1 t2 hne
        by_cases hxy : x1 = y1
        · have hxy' : (!decide (x1 = y1)) = false := by simp [hxy]
          rw [hxy'] at hnq
          have HXY := Lib.hid hxy
          clear hxy hxy'
          go_wp2
          go_region
          go_wp2
          go_roundw
          case rel =>
            refine ⟨k + 1, by omega, by go_num, ?_, hB.drew⟩
            unfold Hid
            rw [HT1.out, HT2.out, hT.out, HXY.out]
          case measure => simp [intOf]; omega
        · have hxy' : (!decide (x1 = y1)) = true := by simp [hxy]
          rw [hxy'] at hnq
          have HD := Lib.hid (HNE.out hxy)
          clear hxy hxy'
          go_wp2
          go_region
          go_wp2
          go_ret
          exact ⟨by rw [HD.out]; rfl, hB.drew⟩
      · obtain rfl : k = a.length := by omega
        have hd : decide (a = b) = true := by
          have := hT.out
          rw [List.take_length, HLL.out, List.take_length] at this
          simp [this]
        have HD := Lib.hid hd
        clear hd hT
        go_wp2
        go_ret
        exact ⟨by rw [HD.out]; rfl, hB⟩
  · have hlI : ¬ (a.length : Int) = b.length := by omega
    have hd : decide (a = b) = false := by simp; intro e; exact hl (by rw [e])
    rw [hd]
    clear hd
    go_wp2
    go_ret
    exact ⟨rfl, Below.refl _ _⟩

end Go.Proofs.YtgpmodbndngcoaaDoor
