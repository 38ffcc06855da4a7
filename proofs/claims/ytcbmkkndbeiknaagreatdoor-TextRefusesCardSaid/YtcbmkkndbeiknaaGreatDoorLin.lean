/- The lines of a text, as lists of bytes. eachLine: the sequence of a text's lines, ranged over by a function. -/
import Derived.Test.YtcbmkkndbeiknaaGreatDoorEd
import Derived.Lib.Bytealg
import Derived.Test.YtcbmkkndbeiknaaGreatDoorShelf
import Derived.RangeFuncNested
import Derived.RangeFuncBound
import Derived.RangeFuncCalls
import Derived.RangeFuncLeaves
import Derived.RangeFuncBox
import Derived.RangeFuncWrites
import Derived.Shelf.Abstract
import Derived.Shelf.RegionOpen
import Derived.OwnWalkIn
import Derived.TacticsInMore
import Derived.LoopNIn
import Derived.LoopIn
import Derived.Maps.AppendAt

namespace Go.Proofs.YtcbmkkndbeiknaaGreatDoor
open Go.RowKit

/-- the lines of a text, each with its line feed -/
def linesL : List UInt8 → List (List UInt8)
  | [] => []
  | c :: s => if c = 10 then [c] :: linesL s else match linesL s with
    | [] => [[c]]
    | l :: r => (c :: l) :: r

def ofL (l : List UInt8) : ByteArray := ⟨l.toArray⟩
def linesB (s : ByteArray) : List ByteArray := (linesL s.data.toList).map ofL

theorem linesL_flat : ∀ s, (linesL s).flatten = s
  | [] => rfl
  | c :: s => by
    have ih := linesL_flat s
    unfold linesL
    by_cases h : c = 10
    · rw [if_pos h]; simp [ih]
    · rw [if_neg h]
      cases hl : linesL s with
      | nil => rw [hl] at ih; simp at ih; simp [← ih]
      | cons l r => rw [hl] at ih; simp at ih; simp [ih]

theorem linesL_ne : ∀ s, ∀ l ∈ linesL s, l ≠ []
  | [], l, h => by simp [linesL] at h
  | c :: s, l, h => by
    unfold linesL at h
    by_cases hc : c = 10
    · rw [if_pos hc] at h
      rcases List.mem_cons.1 h with rfl | h
      · simp
      · exact linesL_ne s l h
    · rw [if_neg hc] at h
      cases hl : linesL s with
      | nil => rw [hl] at h; simp at h; simp [h]
      | cons a r =>
        rw [hl] at h
        rcases List.mem_cons.1 h with rfl | h
        · simp
        · exact linesL_ne s l (by rw [hl]; simp [h])

theorem linesL_eq_nil {s : List UInt8} : linesL s = [] ↔ s = [] := by
  constructor
  · intro h
    have := linesL_flat s
    rw [h] at this
    exact this.symm
  · rintro rfl; rfl

/-- where the first line ends -/
def endL (s : List UInt8) : Nat := if Lib.indexByte s 10 < 0 then s.length else (Lib.indexByte s 10).toNat + 1

theorem endL_hit (s : List UInt8) : endL (10 :: s) = 1 := by simp [endL, Lib.indexByte]

theorem endL_miss {c : UInt8} (h : c ≠ 10) (s : List UInt8) : endL (c :: s) = endL s + 1 := by
  have hge := Lib.indexByte_ge s 10
  unfold endL
  simp only [Lib.indexByte, beq_iff_eq, h, if_false, List.length_cons]
  by_cases h1 : Lib.indexByte s 10 = -1
  · simp [h1]
  · rw [if_neg h1, if_neg (by omega), if_neg (by omega)]
    omega

theorem endL_le : ∀ s, s ≠ [] → 0 < endL s ∧ endL s ≤ s.length
  | [], h => absurd rfl h
  | c :: s, _ => by
    by_cases hc : c = 10
    · subst hc; rw [endL_hit]; simp
    · rw [endL_miss hc]
      cases s with
      | nil => simp [endL, Lib.indexByte]
      | cons d t =>
        have := endL_le (d :: t) (by simp)
        simp only [List.length_cons] at this ⊢
        omega

theorem linesL_cut : ∀ s, s ≠ [] → linesL s = s.take (endL s) :: linesL (s.drop (endL s))
  | [], h => absurd rfl h
  | c :: s, _ => by
    by_cases hc : c = 10
    · subst hc; rw [endL_hit]; simp [linesL]
    · rw [endL_miss hc, List.take_succ_cons, List.drop_succ_cons]
      conv => lhs; rw [linesL, if_neg hc]
      cases s with
      | nil => simp [linesL]
      | cons d t => rw [linesL_cut (d :: t) (by simp)]

theorem ofL_toList (l : List UInt8) : (ofL l).data.toList = l := by simp [ofL]
theorem ofL_eq {s : ByteArray} {l : List UInt8} (h : s.data.toList = l) : s = ofL l := by
  cases s; subst h; simp [ofL]
theorem ofL_self (s : ByteArray) : ofL s.data.toList = s := (ofL_eq rfl).symm

theorem linesB_cut (s : ByteArray) (h : 0 < s.size) : linesB s = s.extract 0 (endL s.data.toList) :: linesB (s.extract (endL s.data.toList) s.size) ∧ 0 < endL s.data.toList ∧ endL s.data.toList ≤ s.size := by
  have hl : s.data.toList.length = s.size := by simp
  have hne : s.data.toList ≠ [] := fun e => by rw [e] at hl; simp at hl; omega
  obtain ⟨h1, h2⟩ := endL_le _ hne
  refine ⟨?_, h1, by omega⟩
  unfold linesB
  rw [linesL_cut _ hne, List.map_cons]
  congr 1
  · symm
    apply ofL_eq
    rw [ByteArray.data_extract, Array.toList_extract]
    simp [List.extract]
  · congr 2
    rw [ByteArray.data_extract, Array.toList_extract]
    simp only [List.extract]
    rw [List.take_of_length_le (by simp)]

theorem linesB_nil {s : ByteArray} (h : s.size = 0) : linesB s = [] := by
  have hl : s.data.toList.length = s.size := by simp
  have : s.data.toList = [] := List.eq_nil_of_length_eq_zero (by omega)
  simp [linesB, this, linesL]

end Go.Proofs.YtcbmkkndbeiknaaGreatDoor

namespace Go.Proofs.YtcbmkkndbeiknaaGreatDoor
open Go.RowKit Go.Shelf

attribute [local go_sem] Oper.semAt_some

set_option maxRecDepth 100000 in
set_option maxHeartbeats 1000000 in
theorem eachLine1_in (n l Bn n₀ : Nat) (s : ByteArray) (hs : s.size ≤ 140737488355328) (J Jx : List ByteArray → World → Prop)
    (hY : ∀ pre x W, J pre W → pre.length < (linesB s).length → YieldAt Fence.wide (n - 1) Tryz.prog l #[.string x] W fun e W' =>
      (e = .returned (.bool true) ∧ J (pre ++ [x]) W' ∧ Below n₀ W W') ∨ (e = .returned (.bool false) ∧ Jx (pre ++ [x]) W'))
    (W : World) (hBn : W.cell? ⟨Bn, 0, none⟩ = some (.string s)) (h0 : J [] W) :
    CallsIn Fence.wide n Tryz.prog 70 #[.func (.yield l) #[] #[], .pointer (some ⟨Bn, 0, none⟩)] W fun e W' => (∃ v, e = .returned v) ∧
      ((∃ ys, ys = linesB s ∧ J ys W') ∨ (∃ pre, pre <+: linesB s ∧ Jx pre W')) := by
  refine callsIn_of_wp Tryz.func70 rfl trivial ?_ rfl
  simp only [Tryz.ntmps70, List.size_toArray, List.length_cons, List.length_nil, Nat.reduceAdd, Nat.reduceSub, Array.replicate_succ, Array.replicate_zero, List.push_toArray, List.append_toArray, List.nil_append, List.cons_append]
  gi_wp2
  gi_loopw [3] (fun r wr => ∃ (pre : List ByteArray) (rest : ByteArray), r = .string rest ∧ rest.size ≤ s.size ∧ Hid (linesB s = pre ++ linesB rest) ∧ J pre wr)
    (fun r _ => match r with | .string x => x.size | _ => 0)
  case atStart => exact ⟨[], s, rfl, Nat.le_refl _, rfl, h0⟩
  case round =>
    obtain ⟨pre, rest, rfl, hle, hx, hJs⟩ := hrel
    by_cases hr : 0 < rest.size
    · have hem : rest.toList.isEmpty = false := by
        rw [ByteArray.toList_eq, List.isEmpty_eq_false_iff]
        intro e
        have hl : rest.data.toList.length = rest.size := by simp
        rw [e] at hl; simp at hl; omega
      have hem2 : (!rest.toList.isEmpty) = true := by rw [hem]; rfl
      obtain ⟨e1, e2, e3⟩ := linesB_cut rest hr
      have hx1 := hx.out
      rw [e1] at hx1
      generalize hxe : rest.extract 0 (endL rest.data.toList) = x at *
      obtain ⟨fn, tmps, assign, body, hy, hR⟩ := hY pre x wr hJs (by rw [hx1]; simp)
      have HX1 := Lib.hid hx1
      have hge := Lib.indexByte_ge rest.data.toList 10
      have hcall := fun W => Tryz.strings_IndexByte rest 10 W
      rw [show (10 : Int).toNat.toUInt8 = (10 : UInt8) from rfl] at hcall
      have hend : endL rest.data.toList = if Lib.indexByte rest.data.toList 10 < 0 then rest.data.toList.length else (Lib.indexByte rest.data.toList 10).toNat + 1 := rfl
      have hl : rest.data.toList.length = rest.size := by simp
      have hex := ByteArray.size_extract (a := rest) (b := endL rest.data.toList) (e := rest.size)
      rw [hl] at hend
      generalize Lib.indexByte rest.data.toList 10 = i at *
      generalize endL rest.data.toList = m at *
      have HC := Lib.hid hcall
      have HEX := Lib.hid hex
      clear hcall hl hx hx1 hex e1
      by_cases hi : i < 0
      · rw [if_pos hi] at hend
        subst hend
        obtain rfl : i = -1 := by omega
        obtain rfl : x = rest := by rw [← hxe, ByteArray.extract_zero_size]
        clear hxe
        gi_wp2
        refine ⟨trivial, by simp [Fence.wide], (callsIn_wide.2 (HC.out _)).mono ?_⟩
        rintro e W1 ⟨rfl, rfl⟩
        gi_wp2
        refine ⟨by simp [Fence.wide], hR.mono ?_⟩
        rintro e W3 (⟨rfl, hJ3, hk3⟩ | ⟨rfl, hJx3⟩)
        · gi_wp2
          go_roundw
          case rel => exact ⟨pre ++ [x], ByteArray.empty, rfl, Nat.zero_le _, (by unfold Hid; rw [HX1.out, linesB_nil (s := x.extract x.size x.size) (by have := HEX.out; omega), linesB_nil (s := ByteArray.empty) rfl]; simp), hJ3⟩
          case measure => have := HEX.out; simp; omega
        · gi_wp2
          refine bodyPost_ret (results_none rfl _ _ _) rfl ?_
          exact ⟨⟨_, rfl⟩, .inr ⟨pre ++ [x], ⟨linesB (x.extract x.size x.size), by rw [HX1.out]; simp⟩, hJx3⟩⟩
      · rw [if_neg hi] at hend
        obtain ⟨j, rfl⟩ := Int.eq_ofNat_of_zero_le (show 0 ≤ i by omega)
        obtain rfl : m = j + 1 := by omega
        clear hend hge
        subst hxe
        gi_wp2
        refine ⟨trivial, by simp [Fence.wide], (callsIn_wide.2 (HC.out _)).mono ?_⟩
        rintro e W1 ⟨rfl, rfl⟩
        gi_wp2
        refine ⟨by simp [Fence.wide], hR.mono ?_⟩
        rintro e W3 (⟨rfl, hJ3, hk3⟩ | ⟨rfl, hJx3⟩)
        · gi_wp2
          go_roundw
          case rel => exact ⟨pre ++ [rest.extract 0 (j + 1)], rest.extract (j + 1) rest.size, rfl, (by have := HEX.out; omega), (by unfold Hid; rw [HX1.out]; simp), hJ3⟩
          case measure => have := HEX.out; simp; omega
        · gi_wp2
          refine bodyPost_ret (results_none rfl _ _ _) rfl ?_
          exact ⟨⟨_, rfl⟩, .inr ⟨pre ++ [rest.extract 0 (j + 1)], ⟨linesB (rest.extract (j + 1) rest.size), by rw [HX1.out]; simp⟩, hJx3⟩⟩
    · have hx1 := hx.out
      rw [linesB_nil (s := rest) (by omega), List.append_nil] at hx1
      have HX1 := Lib.hid hx1
      have hr0 : rest.size = 0 := by omega
      have hem : rest.toList.isEmpty = true := by
        have hl : rest.data.toList.length = rest.size := by simp
        rw [ByteArray.toList_eq, List.isEmpty_iff]
        exact List.eq_nil_of_length_eq_zero (by omega)
      have hem2 : (!rest.toList.isEmpty) = false := by rw [hem]; rfl
      clear hx hx1 hr hr0
      gi_wp2
      go_end0
      exact ⟨⟨_, rfl⟩, .inl ⟨pre, HX1.out.symm, hJs⟩⟩

set_option maxHeartbeats 1000000 in
theorem eachLine_in (n : Nat) (s : ByteArray) (w : World) :
    CallsIn Fence.wide n Tryz.prog 52 #[.string s] w fun e w' => e = .returned (.func (.func 70) #[] #[.pointer (some ⟨w.heap.size, 0, none⟩)]) ∧ w' = w.alloc (.cells #[.string s] 9) := by
  refine callsIn_of_wp Tryz.func52 rfl trivial ?_ rfl
  simp only [Tryz.ntmps52, List.size_toArray, List.length_cons, List.length_nil, Nat.reduceAdd, Nat.reduceSub, Array.replicate_succ, Array.replicate_zero, List.push_toArray, List.append_toArray, List.nil_append, List.cons_append]
  gi_wp2
  go_ret
  exact ⟨rfl, rfl⟩

theorem eachLine_stops (n Bn n₀ : Nat) (s : ByteArray) (hs : s.size ≤ 140737488355328) (w : World) (hBn : Bn < w.heap.size) (hc : w.cell? ⟨Bn, 0, none⟩ = some (.string s)) :
    SeqStopsK Fence.wide n Tryz.prog 70 #[.pointer (some ⟨Bn, 0, none⟩)] (fun x : ByteArray => #[Value.string x]) (Below n₀) (fun ys => ys = linesB s) (fun pre => pre <+: linesB s) (linesB s).length w := fun l J Jx W hW _ _ hY h0 =>
  eachLine1_in n l Bn n₀ s hs J Jx hY W ((hW.cell (p := ⟨Bn, 0, none⟩) hBn).trans hc) h0

end Go.Proofs.YtcbmkkndbeiknaaGreatDoor

namespace Go.Proofs.YtcbmkkndbeiknaaGreatDoor
open Go.RowKit Go.Shelf

attribute [local go_sem] Oper.semAt_some

theorem infoStr : (Tryz.prog.info? 9).map (fun i => (i.zero, i.size, i.bytes)) = some (some (.string ⟨#[]⟩), 1, 16) := by kernel_rfl

theorem linesB_len (s : ByteArray) : (linesB s).length ≤ s.size := by
  have h : ∀ l : List UInt8, (linesL l).length ≤ l.length := by
    intro l
    induction l with
    | nil => simp [linesL]
    | cons c t ih =>
      unfold linesL
      by_cases hc : c = 10
      · rw [if_pos hc]; simp; omega
      · rw [if_neg hc]
        cases hl : linesL t with
        | nil => simp
        | cons a r => rw [hl] at ih; simp at ih ⊢; omega
  have := h s.data.toList
  unfold linesB
  simp at this ⊢
  omega

set_option maxRecDepth 100000 in
set_option maxHeartbeats 2000000 in
theorem lines_in (n : Nat) (hn : 3 ≤ n) (s : ByteArray) (hs : s.size ≤ 8000000) (w : World) :
    CallsIn Fence.wide n Tryz.prog 29 #[.string s] w fun e W' => ∃ v, e = .returned v ∧ W'.ownsRow w.heap.size 9 1 v (linesB s).length ((linesB s).map Value.string) ∧ Below w.heap.size w W' := by
  have h1 : 1 ≤ n := by omega
  have hfn : Fence.wide.fn 52 := trivial
  have hlen := linesB_len s
  obtain ⟨i0, hi, hz0, hz1, hz2⟩ := info_parts infoStr
  refine callsIn_of_wp_marks Tryz.func29 rfl trivial ?_ rfl
  simp only [Tryz.ntmps29, List.size_toArray, List.length_cons, List.length_nil, Nat.reduceAdd, Nat.reduceSub, Array.replicate_succ, Array.replicate_zero, List.push_toArray, List.append_toArray, List.nil_append, List.cons_append]
  gi_wp2_with (gi_at_call 52; refine (eachLine_in (n - 1) _ _).mono ?_; rintro e w' ⟨rfl, rfl⟩)
  have bO := Boxed.new w 37 (.slice none 0 0)
  have bN := Boxed.new (w.alloc (.cells #[.slice none 0 0] 37)) 9 (.string s)
  rw [World.size_alloc] at bN
  have hB0 : Below w.heap.size w ((w.alloc (.cells #[.slice none 0 0] 37)).alloc (.cells #[.string s] 9)) := ((Below.refl _ w).alloc (Nat.le_refl _) _).alloc (by simp) _
  refine wpIn_rangeFunc_ownG rfl h1 (gf := 70) (lb := #[.pointer (some ⟨w.heap.size + 1, 0, none⟩)]) rfl trivial (enters_of Tryz.func70 (by kernel_rfl) rfl)
    (eachLine_stops (n - 1) (w.heap.size + 1) w.heap.size s (by omega) _ (by simp) bN.cell) belowK_t (belowK_b (by simp; omega)) (Below.refl _ _) (fun _ => rfl)
    (fun pre W => (∃ v, Boxed W w.heap.size 37 v ∧ W.ownsRow w.heap.size 9 1 v pre.length (pre.map Value.string) ∧ (v = .slice none 0 0 ↔ pre = [])) ∧ Below w.heap.size w W)
    (fun _ _ _ => False)
    (OwnFrom.and (Own.from (holdsRow_own w.heap.size w.heap.size 37 9 1 (fun pre : List ByteArray => pre.length) (fun pre => pre.map Value.string) (fun pre v => v = .slice none 0 0 ↔ pre = [])) _) (ownFrom_below (Nat.le_refl _) (by simp; omega)))
    (fun _ _ _ _ _ hs _ _ => hs)
    ⟨⟨_, bO.alloc _, World.ownsRow_nil _ _ _ _, by simp⟩, hB0⟩
    (fun x => { tmps := #[.string s, undef, .slice none 0 0, .pointer (some ⟨w.heap.size, 0, none⟩), .string x, .string s, .func (.func 70) #[] #[.pointer (some ⟨w.heap.size + 1, 0, none⟩)], .string x, undef, undef, undef, undef, undef], defers := [] }) ?assign ?body ?done ?stop
  case assign =>
    intro l x W K hK
    gi_wp2
    exact hK
  case body =>
    rintro l pre x W ⟨⟨v, hv, hrow, hnil⟩, hB⟩ hlt
    have hc := hv.cell
    gi_wp2_with (gi_at_builtin; refine wpListIn_append_own _ rfl _ _ 37 rfl w.heap.size 9 i0 (.string ⟨#[]⟩) 1 16 Tryz.underlying37 hi hz0 hz1 hz2 rfl (by decide) _ _ _ rfl (hrow.alloc _) ⟨W.heap.size, 0, none⟩ 1 1 [.string x] rfl rfl (cell_one_new _ _ _) (by simp [Value.oneCell']) (by unfold maxLen; omega) (by omega) (by have := hB.size; simp; omega) ?_; intro v' w1 hown' hgrow _; obtain ⟨g', cap', rfl⟩ := ownsRow_succ hown'; obtain ⟨hv1, hv2, hr2, hk2, hb2⟩ := hv.appended (by decide) hrow hB.size (Nat.le_refl _) hown' hgrow; have hc1 := hv1.cell; have hf1 := hv1.frozen)
    exact ⟨hk2.from _, hb2, ⟨_, hv2, by simpa using hr2, by simp⟩, hB.trans hb2⟩
  case done =>
    rintro D ys W hD rfl ⟨⟨v, hv, hrow, hnil⟩, hB⟩ hK
    have hc := hv.cell
    gi_wp2
    refine ⟨by simp, .inl ⟨_, _, rfl, run_takeDeferred hK, ?_⟩⟩
    exact ⟨_, results_tmp rfl _ _ _, v, rfl, ownsRow_putObj hrow _ hK rfl, hB.trans (belowK_b (w := w) (Nat.le_refl _) W D _ _ (by simp at hD; omega) hK rfl rfl)⟩
  case stop =>
    rintro D c pre W _ _ h _
    exact h.elim

theorem lines_any (s : ByteArray) (hs : s.size ≤ 8000000) (w : World) :
    Calls Tryz.prog 29 #[.string s] w fun e W' => ∃ v, e = .returned v ∧ W'.ownsRow w.heap.size 9 1 v (linesB s).length ((linesB s).map Value.string) ∧ Below w.heap.size w W' :=
  callsIn_wide.1 (lines_in 3 (Nat.le_refl _) s hs w)

end Go.Proofs.YtcbmkkndbeiknaaGreatDoor

namespace Go.Proofs.YtcbmkkndbeiknaaGreatDoor
open Go.RowKit Go.Shelf

attribute [local go_sem] Oper.semAt_some

set_option maxRecDepth 100000 in
set_option maxHeartbeats 2000000 in
theorem moreLines_in (n : Nat) (hn : 3 ≤ n) (s : ByteArray) (hs : s.size ≤ 8000000) (L : Nat) (hL : L ≤ 1000000) (w : World) :
    CallsIn Fence.wide n Tryz.prog 56 #[.string s, .int .i64 L] w fun e W' => e = .returned (.bool (decide (L < (linesB s).length))) ∧ Below w.heap.size w W' := by
  have h1 : 1 ≤ n := by omega
  have hfn : Fence.wide.fn 52 := trivial
  have hlen := linesB_len s
  refine callsIn_of_wp_marks Tryz.func56 rfl trivial ?_ rfl
  simp only [Tryz.ntmps56, List.size_toArray, List.length_cons, List.length_nil, Nat.reduceAdd, Nat.reduceSub, Array.replicate_succ, Array.replicate_zero, List.push_toArray, List.append_toArray, List.nil_append, List.cons_append]
  gi_wp2_with (gi_at_call 52; refine (eachLine_in (n - 1) _ _).mono ?_; rintro e w' ⟨rfl, rfl⟩)
  have c0 := Boxed.new w 3 (.int .i64 L)
  have c1 := Boxed.new (w.alloc (.cells #[.int .i64 L] 3)) 4 (.bool false)
  have c2 := Boxed.new ((w.alloc (.cells #[.int .i64 L] 3)).alloc (.cells #[.bool false] 4)) 3 (.int .i64 0)
  have c3 := Boxed.new (((w.alloc (.cells #[.int .i64 L] 3)).alloc (.cells #[.bool false] 4)).alloc (.cells #[.int .i64 0] 3)) 9 (.string s)
  simp only [World.size_alloc] at c1 c2 c3
  have hB0 : Below w.heap.size w ((((w.alloc (.cells #[.int .i64 L] 3)).alloc (.cells #[.bool false] 4)).alloc (.cells #[.int .i64 0] 3)).alloc (.cells #[.string s] 9)) := ((((Below.refl _ w).alloc (Nat.le_refl _) _).alloc (by simp) _).alloc (by simp; omega) _).alloc (by simp; omega) _
  refine wpIn_rangeFunc_ownF rfl h1 (gf := 70) (lb := #[.pointer (some ⟨w.heap.size + 1 + 1 + 1, 0, none⟩)]) rfl trivial (enters_of Tryz.func70 (by kernel_rfl) rfl)
    (eachLine_stops (n - 1) (w.heap.size + 1 + 1 + 1) w.heap.size s (by omega) _ (by simp) c3.cell) belowK_t (belowK_b (by simp; omega)) (Below.refl _ _) (fun _ => rfl)
    (fun pre W => (pre.length ≤ L ∧ Boxed W w.heap.size 3 (.int .i64 L) ∧ Boxed W (w.heap.size + 1) 4 (.bool false) ∧ Boxed W (w.heap.size + 1 + 1) 3 (.int .i64 pre.length)) ∧ Below w.heap.size w W)
    (fun c pre W => (c = .ret ∧ L < pre.length ∧ Boxed W (w.heap.size + 1) 4 (.bool true)) ∧ Below w.heap.size w W)
    (OwnFrom.and ((ownFrom_pure _ _).and (((boxed_own _ _ _).from _).and (((boxed_own _ _ _).from _).and ((boxed_own _ _ _).from _)))) (ownFrom_below (Nat.le_refl _) (by simp; omega)))
    (fun c => OwnFrom.and ((ownFrom_pure _ _).and ((ownFrom_pure _ _).and ((boxed_own _ _ _).from _))) (ownFrom_below (Nat.le_refl _) (by simp; omega)))
    ⟨⟨Nat.zero_le _, ((c0.alloc _).alloc _).alloc _, (c1.alloc _).alloc _, c2.alloc _⟩, hB0⟩
    (fun x => { tmps := #[.string s, .int .i64 L, undef, .pointer (some ⟨w.heap.size, 0, none⟩), .pointer (some ⟨w.heap.size + 1, 0, none⟩), .pointer (some ⟨w.heap.size + 1 + 1, 0, none⟩), .string s, .func (.func 70) #[] #[.pointer (some ⟨w.heap.size + 1 + 1 + 1, 0, none⟩)], .string x, undef, undef, undef, undef, undef], defers := [] }) ?assign ?body ?done ?stop
  case assign =>
    intro l x W K hK
    gi_wp2
    simpa using hK
  case body =>
    rintro l pre x W ⟨⟨hp, b0, b1, b2⟩, hB⟩ hlt
    have q0 := b0.cell
    have q1 := b1.cell
    have f1 := b1.frozen
    have q2 := b2.cell
    have f2 := b2.frozen
    by_cases hx : L < pre.length + 1
    · gi_wp2
      refine ⟨(KeepsOthers.setCell _ _ _).trans (KeepsOthers.setCell _ _ _), ⟨rfl, by simpa using hx, (b1.other (by omega) _).set _⟩, (hB.setCell (p := ⟨w.heap.size + 1 + 1, 0, none⟩) (by simp; omega) _).setCell (p := ⟨w.heap.size + 1, 0, none⟩) (by simp) _⟩
    · gi_wp2
      refine ⟨KeepsOthers.setCell _ _ _, (Below.refl _ _).setCell (p := ⟨w.heap.size + 1 + 1, 0, none⟩) (by simp; omega) _, ⟨by simp; omega, b0.other (by omega) _, b1.other (by omega) _, ?_⟩, hB.setCell (p := ⟨w.heap.size + 1 + 1, 0, none⟩) (by simp; omega) _⟩
      have := b2.set (.int .i64 (pre.length + 1))
      simpa using this
  case done =>
    rintro D ys W hD rfl ⟨⟨hp, b0, b1, b2⟩, hB⟩ hK
    have q1 := b1.cell
    have f1 := b1.frozen
    gi_wp2
    have hK' := (KeepsOthers.setCell W ⟨w.heap.size + 1, 0, none⟩ (.bool false)).same D _ hK rfl
    refine ⟨by simp, .inl ⟨_, _, rfl, run_takeDeferred hK', ?_⟩⟩
    have hc5 := cell_kept (b1.set (.bool false)).cell (grownBy_putObj' _ D (.deferred none)) (fun r e => by cases e; exact ⟨_, hK', rfl⟩)
    refine ⟨.bool false, ?_, by rw [decide_eq_false (by omega)], (hB.setCell (p := ⟨w.heap.size + 1, 0, none⟩) (by simp) _).trans (belowK_b (w := w) (Nat.le_refl _) _ D _ _ (by simp at hD; omega) hK' rfl rfl)⟩
    simp [results, Tryz.f56, go_sem, hc5]
  case stop =>
    rintro D c pre W hD hpre ⟨⟨rfl, hin, b1⟩, hB⟩ hK
    gi_wp2
    refine ⟨by simp, .inl ⟨_, _, rfl, run_takeDeferred hK, ?_⟩⟩
    have hc5 := cell_kept b1.cell (grownBy_putObj' _ D (.deferred none)) (fun r e => by cases e; exact ⟨_, hK, rfl⟩)
    have hle := hpre.length_le
    refine ⟨.bool true, ?_, by rw [decide_eq_true (by omega)], hB.trans (belowK_b (w := w) (Nat.le_refl _) W D _ _ (by simp at hD; omega) hK rfl rfl)⟩
    simp [results, Tryz.f56, go_sem, hc5]

theorem moreLines_any (s : ByteArray) (hs : s.size ≤ 8000000) (L : Nat) (hL : L ≤ 1000000) (w : World) :
    Calls Tryz.prog 56 #[.string s, .int .i64 L] w fun e W' => e = .returned (.bool (decide (L < (linesB s).length))) ∧ Below w.heap.size w W' :=
  callsIn_wide.1 (moreLines_in 3 (Nat.le_refl _) s hs L hL w)

end Go.Proofs.YtcbmkkndbeiknaaGreatDoor

namespace Go.Proofs.YtcbmkkndbeiknaaGreatDoor
open Go.RowKit Go.Shelf

def limF (s : ByteArray) : Bool := decide (s.size ≤ 200000) && decide ((linesB s).length ≤ 2000)

theorem limF_small (s : ByteArray) (h : s.size ≤ 200000) : limF s = !decide (2000 < (linesB s).length) := by
  unfold limF
  rw [decide_eq_true h, Bool.true_and]
  by_cases g : (linesB s).length ≤ 2000
  · rw [decide_eq_true g, decide_eq_false (by omega)]; rfl
  · rw [decide_eq_false g, decide_eq_true (by omega)]; rfl

set_option maxHeartbeats 1000000 in
set_option maxRecDepth 100000 in
theorem withinLimits_any (a b : ByteArray) (w : World) (ha : a.size ≤ 8000000) (hb : b.size ≤ 8000000) :
    Calls Tryz.prog 35 #[.string a, .string b] w fun e w' => e = .returned (.bool (limF a && limF b)) ∧ Below w.heap.size w w' := by
  have i0 : ∀ w, (Instr.index 104 (.agg #[.string a, .string b]) (.int .i64 0)).run Tryz.prog w = .ok (.string a) w := fun _ => rfl
  have i1 : ∀ w, (Instr.index 104 (.agg #[.string a, .string b]) (.int .i64 1)).run Tryz.prog w = .ok (.string b) w := fun _ => rfl
  go_enter Tryz.func35, Tryz.ntmps35
  go_wp2
  go_loopw [10] (fun i wr => ∃ k : Nat, k ≤ 2 ∧ i = .int .i64 k ∧ (0 < k → limF a = true) ∧ (1 < k → limF b = true) ∧ Below w.heap.size w wr) (fun i _ => 2 - (intOf i).toNat)
  case atStart => exact ⟨0, by omega, rfl, by omega, by omega, Below.refl _ _⟩
  case round =>
    obtain ⟨k, hk, rfl, h1, h2, hb0⟩ := hrel
    have HA := Lib.hid h1
    have HB := Lib.hid h2
    clear h1 h2
    rcases (by omega : k = 0 ∨ k = 1 ∨ k = 2) with rfl | rfl | rfl
    · by_cases q : 200000 < a.size
      · have e : limF a = false := by unfold limF; rw [decide_eq_false (by omega)]; rfl
        have HE := Lib.hid e
        clear e
        go_wp2
        go_ret
        exact ⟨ret_bool (by rw [HE.out]; rfl), hb0⟩
      · have e := limF_small a (by omega)
        have hm := moreLines_any a ha 2000 (by omega) wr
        cases q2 : decide (2000 < (linesB a).length)
        · rw [q2] at e hm
          have HE := Lib.hid e
          have HM := Lib.hid hm
          clear e hm q2
          go_wp2_with (go_at_call 56; refine HM.out.mono ?_; rintro e w1 ⟨rfl, hb1⟩)
          go_roundw
          case rel => exact ⟨1, by omega, rfl, fun _ => HE.out, by omega, (hb0.trans (hb1.mono hb0.size))⟩
          case measure => simp [intOf]
        · rw [q2] at e hm
          have HE := Lib.hid e
          have HM := Lib.hid hm
          clear e hm q2
          go_wp2_with (go_at_call 56; refine HM.out.mono ?_; rintro e w1 ⟨rfl, hb1⟩)
          go_ret
          exact ⟨ret_bool (by rw [HE.out]; rfl), hb0.trans (hb1.mono hb0.size)⟩
    · by_cases q : 200000 < b.size
      · have e : limF b = false := by unfold limF; rw [decide_eq_false (by omega)]; rfl
        have HE := Lib.hid e
        clear e
        go_wp2
        go_ret
        exact ⟨ret_bool (by rw [HE.out]; simp), hb0⟩
      · have e := limF_small b (by omega)
        have hm := moreLines_any b hb 2000 (by omega) wr
        cases q2 : decide (2000 < (linesB b).length)
        · rw [q2] at e hm
          have HE := Lib.hid e
          have HM := Lib.hid hm
          clear e hm q2
          go_wp2_with (go_at_call 56; refine HM.out.mono ?_; rintro e w1 ⟨rfl, hb1⟩)
          go_roundw
          case rel => exact ⟨2, by omega, rfl, fun _ => HA.out (by omega), fun _ => HE.out, (hb0.trans (hb1.mono hb0.size))⟩
          case measure => simp [intOf]
        · rw [q2] at e hm
          have HE := Lib.hid e
          have HM := Lib.hid hm
          clear e hm q2
          go_wp2_with (go_at_call 56; refine HM.out.mono ?_; rintro e w1 ⟨rfl, hb1⟩)
          go_ret
          exact ⟨ret_bool (by rw [HE.out]; simp), hb0.trans (hb1.mono hb0.size)⟩
    · go_wp2
      go_ret
      exact ⟨ret_bool (by rw [HA.out (by omega), HB.out (by omega)]; rfl), hb0⟩

end Go.Proofs.YtcbmkkndbeiknaaGreatDoor
