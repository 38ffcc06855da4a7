/- eachLine: the sequence of a text's lines, ranged over by a function. -/
import Derived.Test.YtgpmodbndngcoaaDoorLinesF
import Derived.Test.YtgpmodbndngcoaaDoorShelf
import Derived.RangeFuncNested
import Derived.RangeFuncBound
import Derived.RangeFuncCalls
import Derived.RangeFuncLeaves
import Derived.RangeFuncBox
import Derived.RangeFuncWrites
import Derived.Shelf.Abstract
import Derived.Shelf.RegionOpen
import Derived.OwnWalkIn
import Derived.TacticsInMore
import Derived.LoopNIn
import Derived.LoopIn
import Derived.Maps.AppendAt
namespace Go.Proofs.YtgpmodbndngcoaaDoor
open Go.RowKit Go.Shelf

attribute [local go_sem] Oper.semAt_some

set_option maxRecDepth 100000 in
set_option maxHeartbeats 1000000 in
theorem eachLine1_in (n l Bn n₀ : Nat) (s : ByteArray) (hs : s.size ≤ 140737488355328) (J Jx : List ByteArray → World → Prop)
    (hY : ∀ pre x W, J pre W → pre.length < (linesB s).length → YieldAt Fence.wide (n - 1) Tryd.prog l #[.string x] W fun e W' =>
      (e = .returned (.bool true) ∧ J (pre ++ [x]) W' ∧ Below n₀ W W') ∨ (e = .returned (.bool false) ∧ Jx (pre ++ [x]) W'))
    (W : World) (hBn : W.cell? ⟨Bn, 0, none⟩ = some (.string s)) (h0 : J [] W) :
    CallsIn Fence.wide n Tryd.prog 89 #[.func (.yield l) #[] #[], .pointer (some ⟨Bn, 0, none⟩)] W fun e W' => (∃ v, e = .returned v) ∧
      ((∃ ys, ys = linesB s ∧ J ys W') ∨ (∃ pre, pre <+: linesB s ∧ Jx pre W')) := by
  refine callsIn_of_wp Tryd.func89 rfl trivial ?_ rfl
  simp only [Tryd.ntmps89, List.size_toArray, List.length_cons, List.length_nil, Nat.reduceAdd, Nat.reduceSub, Array.replicate_succ, Array.replicate_zero, List.push_toArray, List.append_toArray, List.nil_append, List.cons_append]
  gi_wp2
  gi_loopw [3] (fun r wr => ∃ (pre : List ByteArray) (rest : ByteArray), r = .string rest ∧ rest.size ≤ s.size ∧ Hid (linesB s = pre ++ linesB rest) ∧ J pre wr)
    (fun r _ => match r with | .string x => x.size | _ => 0)
  case atStart => exact ⟨[], s, rfl, Nat.le_refl _, rfl, h0⟩
  case round =>
    obtain ⟨pre, rest, rfl, hle, hx, hJs⟩ := hrel
    by_cases hr : 0 < rest.size
    · have hem : rest.toList.isEmpty = false := by
        rw [ByteArray.toList_eq, List.isEmpty_eq_false_iff]
        intro e
        have hl : rest.data.toList.length = rest.size := by simp
        rw [e] at hl; simp at hl; omega
      have hem2 : (!rest.toList.isEmpty) = true := by rw [hem]; rfl
      obtain ⟨e1, e2, e3⟩ := linesB_cut rest hr
      have hx1 := hx.out
      rw [e1] at hx1
      generalize hxe : rest.extract 0 (endL rest.data.toList) = x at *
      obtain ⟨fn, tmps, assign, body, hy, hR⟩ := hY pre x wr hJs (by rw [hx1]; simp)
      have HX1 := Lib.hid hx1
      have hge := Lib.indexByte_ge rest.data.toList 10
      have hcall := fun W => Tryd.strings_IndexByte rest 10 W
      rw [show (10 : Int).toNat.toUInt8 = (10 : UInt8) from rfl] at hcall
      have hend : endL rest.data.toList = if Lib.indexByte rest.data.toList 10 < 0 then rest.data.toList.length else (Lib.indexByte rest.data.toList 10).toNat + 1 := rfl
      have hl : rest.data.toList.length = rest.size := by simp
      have hex := ByteArray.size_extract (a := rest) (b := endL rest.data.toList) (e := rest.size)
      rw [hl] at hend
      generalize Lib.indexByte rest.data.toList 10 = i at *
      generalize endL rest.data.toList = m at *
      have HC := Lib.hid hcall
      have HEX := Lib.hid hex
      clear hcall hl hx hx1 hex e1
      by_cases hi : i < 0
      · rw [if_pos hi] at hend
        subst hend
        obtain rfl : i = -1 := by omega
        obtain rfl : x = rest := by rw [← hxe, ByteArray.extract_zero_size]
        clear hxe
        gi_wp2
        refine ⟨trivial, by simp [Fence.wide], (callsIn_wide.2 (HC.out _)).mono ?_⟩
        rintro e W1 ⟨rfl, rfl⟩
        gi_wp2
        refine ⟨by simp [Fence.wide], hR.mono ?_⟩
        rintro e W3 (⟨rfl, hJ3, hk3⟩ | ⟨rfl, hJx3⟩)
        · gi_wp2
          go_roundw
          case rel => exact ⟨pre ++ [x], ByteArray.empty, rfl, Nat.zero_le _, (by unfold Hid; rw [HX1.out, linesB_nil (s := x.extract x.size x.size) (by have := HEX.out; omega), linesB_nil (s := ByteArray.empty) rfl]; simp), hJ3⟩
          case measure => have := HEX.out; simp; omega
        · gi_wp2
          refine bodyPost_ret (results_none rfl _ _ _) rfl ?_
          exact ⟨⟨_, rfl⟩, .inr ⟨pre ++ [x], ⟨linesB (x.extract x.size x.size), by rw [HX1.out]; simp⟩, hJx3⟩⟩
      · rw [if_neg hi] at hend
        obtain ⟨j, rfl⟩ := Int.eq_ofNat_of_zero_le (show 0 ≤ i by omega)
        obtain rfl : m = j + 1 := by omega
        clear hend hge
        subst hxe
        gi_wp2
        refine ⟨trivial, by simp [Fence.wide], (callsIn_wide.2 (HC.out _)).mono ?_⟩
        rintro e W1 ⟨rfl, rfl⟩
        gi_wp2
        refine ⟨by simp [Fence.wide], hR.mono ?_⟩
        rintro e W3 (⟨rfl, hJ3, hk3⟩ | ⟨rfl, hJx3⟩)
        · gi_wp2
          go_roundw
          case rel => exact ⟨pre ++ [rest.extract 0 (j + 1)], rest.extract (j + 1) rest.size, rfl, (by have := HEX.out; omega), (by unfold Hid; rw [HX1.out]; simp), hJ3⟩
          case measure => have := HEX.out; simp; omega
        · gi_wp2
          refine bodyPost_ret (results_none rfl _ _ _) rfl ?_
          exact ⟨⟨_, rfl⟩, .inr ⟨pre ++ [rest.extract 0 (j + 1)], ⟨linesB (rest.extract (j + 1) rest.size), by rw [HX1.out]; simp⟩, hJx3⟩⟩
    · have hx1 := hx.out
      rw [linesB_nil (s := rest) (by omega), List.append_nil] at hx1
      have HX1 := Lib.hid hx1
      have hr0 : rest.size = 0 := by omega
      have hem : rest.toList.isEmpty = true := by
        have hl : rest.data.toList.length = rest.size := by simp
        rw [ByteArray.toList_eq, List.isEmpty_iff]
        exact List.eq_nil_of_length_eq_zero (by omega)
      have hem2 : (!rest.toList.isEmpty) = false := by rw [hem]; rfl
      clear hx hx1 hr hr0
      gi_wp2
      go_end0
      exact ⟨⟨_, rfl⟩, .inl ⟨pre, HX1.out.symm, hJs⟩⟩

set_option maxHeartbeats 1000000 in
theorem eachLine_in (n : Nat) (s : ByteArray) (w : World) :
    CallsIn Fence.wide n Tryd.prog 54 #[.string s] w fun e w' => e = .returned (.func (.func 89) #[] #[.pointer (some ⟨w.heap.size, 0, none⟩)]) ∧ w' = w.alloc (.cells #[.string s] 9) := by
  refine callsIn_of_wp Tryd.func54 rfl trivial ?_ rfl
  simp only [Tryd.ntmps54, List.size_toArray, List.length_cons, List.length_nil, Nat.reduceAdd, Nat.reduceSub, Array.replicate_succ, Array.replicate_zero, List.push_toArray, List.append_toArray, List.nil_append, List.cons_append]
  gi_wp2
  go_ret
  exact ⟨rfl, rfl⟩

theorem eachLine_stops (n Bn n₀ : Nat) (s : ByteArray) (hs : s.size ≤ 140737488355328) (w : World) (hBn : Bn < w.heap.size) (hc : w.cell? ⟨Bn, 0, none⟩ = some (.string s)) :
    SeqStopsK Fence.wide n Tryd.prog 89 #[.pointer (some ⟨Bn, 0, none⟩)] (fun x : ByteArray => #[Value.string x]) (Below n₀) (fun ys => ys = linesB s) (fun pre => pre <+: linesB s) (linesB s).length w := fun l J Jx W hW _ _ hY h0 =>
  eachLine1_in n l Bn n₀ s hs J Jx hY W ((hW.cell (p := ⟨Bn, 0, none⟩) hBn).trans hc) h0

end Go.Proofs.YtgpmodbndngcoaaDoor
