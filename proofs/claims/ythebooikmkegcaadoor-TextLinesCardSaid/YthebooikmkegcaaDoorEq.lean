/- EqStrings, and the document's Lines. -/
import Derived.Test.YthebooikmkegcaaDoorLines
import Derived.Test.YthebooikmkegcaaDoorPlace
import Derived.Maps.AppendAt
namespace Go.Proofs.YthebooikmkegcaaDoor
open Go.RowKit Go.Maps

theorem strNe' {x y : ByteArray} (h : x ≠ y) : (x.toList == y.toList) = false := by
  cases e : x.toList == y.toList
  · rfl
  · have e2 := eq_of_beq e
    rw [ByteArray.toList_eq, ByteArray.toList_eq] at e2
    exact absurd (by cases x; cases y; simp_all) h

set_option maxHeartbeats 1000000 in
set_option maxRecDepth 100000 in
theorem eqStrings_any (A A2 : Option Addr) (c c2 : Nat) (a b : List ByteArray) (w : World) (ha : a.length ≤ 1000000) (hb : b.length ≤ 1000000) (h1 : Rd w w.heap.size A (a.map Value.string)) (h2 : Rd w w.heap.size A2 (b.map Value.string)) :
    Calls Tryd.prog 11 #[.slice A a.length c, .slice A2 b.length c2] w fun e w' => e = .returned (.bool (decide (a = b))) ∧ Below w.heap.size w w' := by
  have H1 := Lib.hid h1
  have H2 := Lib.hid h2
  clear h1 h2
  go_enter Tryd.func11, Tryd.ntmps11
  by_cases hl : a.length = b.length
  · have hlI : (a.length : Int) = b.length := by omega
    go_wp2
    have HLL := Lib.hid hl
    clear hl hlI
    go_loopw [5] (fun vi wr => ∃ k : Nat, k ≤ a.length ∧ vi = .int .i64 k ∧ Hid (a.take k = b.take k) ∧ Below w.heap.size w wr) (fun vi _ => a.length - (intOf vi).toNat)
    case atStart => exact ⟨0, Nat.zero_le _, rfl, rfl, Below.refl _ _⟩
    case round =>
      obtain ⟨k, hk, rfl, hT, hB⟩ := hrel
      by_cases hlt : k < a.length
      · have hltb : k < b.length := by have := HLL.out; omega
        have hlA : 0 < (a.map Value.string).length := by rw [List.length_map]; omega
        obtain ⟨ba1, oa1, eA, hBa, hca1⟩ := H1.out hlA
        have cA := (hB.cell (p := ⟨ba1, oa1 + k, none⟩) hBa).trans (hca1 k (.string a[k]) (by simp [hlt]))
        have hlB : 0 < (b.map Value.string).length := by rw [List.length_map]; omega
        obtain ⟨bb1, ob1, eB, hBb, hcb1⟩ := H2.out hlB
        have cB := (hB.cell (p := ⟨bb1, ob1 + k, none⟩) hBb).trans (hcb1 k (.string b[k]) (by simp [hltb]))
        have hTk := hT.out
        have t1 := List.take_succ_eq_append_getElem hlt
        have t2 := List.take_succ_eq_append_getElem hltb
        have hne : ¬ a[k] = b[k] → decide (a = b) = false := fun h => by
          simp only [decide_eq_false_iff_not]
          rintro rfl
          exact h rfl
        cases eA
        cases eB
        clear hlA hlB hca1 hcb1
        generalize a[k] = x1 at *
        generalize b[k] = y1 at *
        have HT1 := Lib.hid t1
        have HT2 := Lib.hid t2
        have HNE := Lib.hid hne
        clear t1 t2 hTk hne
        by_cases hxy : x1 = y1
        · subst hxy
          go_wp2
          go_region
          go_wp2
          go_roundw
          case rel =>
            refine ⟨k + 1, by omega, by go_num, ?_, hB.drew⟩
            unfold Hid
            rw [HT1.out, HT2.out, hT.out]
          case measure => simp [intOf]; omega
        · have hdec := strNe' hxy
          have HD := Lib.hid (HNE.out hxy)
          clear hxy
          go_wp2
          go_region
          go_wp2
          go_ret
          exact ⟨by rw [HD.out]; rfl, hB.drew⟩
      · obtain rfl : k = a.length := by omega
        have hd : decide (a = b) = true := by
          have := hT.out
          rw [List.take_length, HLL.out, List.take_length] at this
          simp [this]
        have HD := Lib.hid hd
        clear hd hT
        go_wp2
        go_ret
        exact ⟨by rw [HD.out]; rfl, hB⟩
  · have hlI : ¬ (a.length : Int) = b.length := by omega
    have hd : decide (a = b) = false := by simp; intro e; exact hl (by rw [e])
    rw [hd]
    clear hd
    go_wp2
    go_ret
    exact ⟨rfl, Below.refl _ _⟩

theorem linesL_run : ∀ (p rest : List UInt8), (∀ c ∈ p, c ≠ 10) → linesL (p ++ 10 :: rest) = (p ++ [10]) :: linesL rest
  | [], rest, _ => by simp [linesL]
  | c :: p, rest, h => by
    have ih := linesL_run p rest (fun d hd => h d (List.mem_cons_of_mem _ hd))
    rw [List.cons_append, linesL, if_neg (h c (List.mem_cons_self ..)), ih]
    rfl

theorem linesL_last : ∀ (p : List UInt8), p ≠ [] → (∀ c ∈ p, c ≠ 10) → linesL p = [p]
  | [], h, _ => absurd rfl h
  | [c], _, h => by rw [linesL, if_neg (h c (List.mem_cons_self ..))]; simp [linesL]
  | c :: d :: p, _, h => by
    have ih := linesL_last (d :: p) (by simp) (fun e he => h e (List.mem_cons_of_mem _ he))
    rw [linesL, if_neg (h c (List.mem_cons_self ..)), ih]

/-- the lines of s from place k on -/
def linesFrom (s : ByteArray) (k : Nat) : List ByteArray := (linesL (s.data.toList.drop k)).map ofL

theorem part_toList (s : ByteArray) (i j : Nat) : (s.extract i j).data.toList = (s.data.toList.take j).drop i := by
  simp [ByteArray.extract, ByteArray.copySlice, List.drop_take]

theorem linesFrom_feed (s : ByteArray) (f i : Nat) (hf : f ≤ i) (hi : i < s.size) (hc : s[i]'hi = 10) (hn : ∀ q, f ≤ q → (h : q < i) → s[q]'(by omega) ≠ 10) : linesFrom s f = s.extract f (i + 1) :: linesFrom s (i + 1) := by
  have hl : s.data.toList.length = s.size := by simp
  have hsp : s.data.toList.drop f = (s.data.toList.take i).drop f ++ 10 :: s.data.toList.drop (i + 1) := by
    have e1 : s.data.toList = s.data.toList.take i ++ 10 :: s.data.toList.drop (i + 1) := by
      conv => lhs; rw [← List.take_append_drop i s.data.toList]
      congr 1
      rw [List.drop_eq_getElem_cons (by omega)]
      congr 1
    conv => lhs; rw [e1]
    rw [List.drop_append_of_le_length (by rw [List.length_take]; omega)]
  unfold linesFrom
  rw [hsp, linesL_run, List.map_cons]
  · congr 1
    have : (s.extract f (i + 1)).data.toList = (s.data.toList.take i).drop f ++ [10] := by
      rw [part_toList, List.take_succ_eq_append_getElem (by omega), List.drop_append_of_le_length (by rw [List.length_take]; omega)]
      congr 2
    exact (ofL_eq this).symm
  · intro c hcm e
    subst e
    obtain ⟨q, hq, he⟩ := List.getElem_of_mem hcm
    rw [List.length_drop, List.length_take] at hq
    rw [List.getElem_drop, List.getElem_take] at he
    exact hn (f + q) (by omega) (by omega) (show s.data[f + q]'(by have : s.data.size = s.size := rfl; omega) = 10 from by simpa using he)

theorem linesFrom_last (s : ByteArray) (f : Nat) (hf : f < s.size) (hn : ∀ q, f ≤ q → (h : q < s.size) → s[q]'h ≠ 10) : linesFrom s f = [s.extract f s.size] := by
  have hl : s.data.toList.length = s.size := by simp
  unfold linesFrom
  rw [linesL_last]
  · have : (s.extract f s.size).data.toList = s.data.toList.drop f := by
      rw [part_toList, ← hl, List.take_length]
    rw [List.map_cons, List.map_nil, ofL_eq this]
  · intro e
    have := congrArg List.length e
    rw [List.length_drop] at this
    simp at this; omega
  · intro c hcm e
    subst e
    obtain ⟨q, hq, he⟩ := List.getElem_of_mem hcm
    rw [List.length_drop] at hq
    rw [List.getElem_drop] at he
    exact hn (f + q) (by omega) (by omega) (show s.data[f + q]'(by have : s.data.size = s.size := rfl; omega) = 10 from by simpa using he)

theorem linesFrom_end (s : ByteArray) (f : Nat) (hf : s.size ≤ f) : linesFrom s f = [] := by
  have hl : s.data.toList.length = s.size := by simp
  unfold linesFrom
  rw [List.drop_eq_nil_of_le (by omega), linesL]; rfl

set_option maxHeartbeats 1000000 in
set_option maxRecDepth 100000 in
theorem refLines_any (s : ByteArray) (hs : s.size ≤ 8000000) (w : World) :
    Calls Tryd.prog 13 #[.string s] w fun e W' => ∃ v, e = .returned v ∧ W'.ownsRow w.heap.size 9 1 v (linesB s).length ((linesB s).map Value.string) ∧ Below w.heap.size w W' := by
  obtain ⟨i0, hi, hz0, hz1, hz2⟩ := info_parts infoStr
  go_enter Tryd.func13, Tryd.ntmps13
  go_wp2
  go_loopw [3, 4, 5] (fun v vf vi wr => ∃ (f i n : Nat) (acc : List ByteArray), vf = .int .i64 f ∧ vi = .int .i64 i ∧ f ≤ i ∧ i ≤ s.size ∧ n ≤ i ∧ Hid (acc.length = n) ∧ Hid (wr.ownsRow w.heap.size 9 1 v n (acc.map Value.string)) ∧ Hid (acc ++ linesFrom s f = linesB s) ∧
      Hid (∀ q, f ≤ q → (h : q < i) → (h2 : q < s.size) → s[q]'h2 ≠ 10) ∧ Hid (Below w.heap.size w wr)) (fun _ _ vi _ => s.size - (intOf vi).toNat)
  case atStart => exact ⟨0, 0, 0, [], rfl, rfl, Nat.le_refl _, Nat.zero_le _, Nat.le_refl _, rfl, World.ownsRow_nil _ _ _ _, rfl, (fun q _ h _ => by omega), Below.refl _ _⟩
  case round =>
    obtain ⟨f, i, n, acc, rfl, rfl, hfi, his, hni, hN, hO, hL, hF, hB⟩ := hrel
    by_cases hlt : i < s.size
    · have hbt := byte_toInt (s[i]'hlt)
      by_cases hb : s[i]'hlt = 10
      · have hb2 : (((s[i]'hlt).toNat : Int) == 10) = true := by simpa using hbt.2 hb
        have hlf := linesFrom_feed s f i hfi hlt hb (fun q h1 h2 => hF.out q h1 h2 (by omega))
        have hL2 := hL.out
        rw [hlf] at hL2
        have HL2 := Lib.hid hL2
        have e1 : ((i : Int) + 1).toNat = i + 1 := by omega
        clear hbt hlf hL2 hL hb
        go_wp2_with (at_builtin; go_loud (refine wpList_append_own _ rfl _ _ 26 rfl w.heap.size 9 i0 (.string ⟨#[]⟩) 1 16 Tryd.underlying26 hi hz0 hz1 hz2 rfl (by decide) _ n (acc.map Value.string) rfl (hO.out.alloc _) ⟨wr.heap.size, 0, none⟩ 1 1 [.string (s.extract f (i + 1))] rfl rfl (cell_one_new _ _ _) (by simp [Value.oneCell']) (by unfold maxLen; omega) (by omega) (by have := hB.out.size; simp; omega) ?_); intro v' w1 hown' hgr _)
        go_roundw
        case rel =>
          refine ⟨i + 1, i + 1, n + 1, acc ++ [s.extract f (i + 1)], by go_num, by go_num, Nat.le_refl _, by omega, by omega, by simp [Hid, hN.out], ?_, ?_, (fun q h1 h2 _ => by omega), ?_⟩
          · unfold Hid; rw [List.map_append]; exact hown'
          · unfold Hid; rw [← HL2.out]; simp
          · exact (hB.out.alloc hB.out.size _).grown hgr (by have := hB.out.size; simp; omega) (fun k e => (hO.out.lt k e).1)
        case measure => simp [intOf]; omega
      · have hb2 : (((s[i]'hlt).toNat : Int) == 10) = false := by
          cases e : (((s[i]'hlt).toNat : Int) == 10)
          · rfl
          · exact absurd (hbt.1 (eq_of_beq e)) hb
        have HB := Lib.hid hb
        clear hbt hb
        go_wp2
        go_roundw
        case rel =>
          refine ⟨f, i + 1, n, acc, rfl, by go_num, by omega, by omega, by omega, hN.out, hO.out, hL.out, (fun q h1 h2 h3 => ?_), hB.out⟩
          by_cases hq : q = i
          · subst hq; exact HB.out
          · exact hF.out q h1 (by omega) h3
        case measure => simp [intOf]; omega
    · obtain rfl : i = s.size := by omega
      by_cases hfs : f < s.size
      · have hlf := linesFrom_last s f hfs (fun q h1 h2 => hF.out q h1 h2 h2)
        have hL2 := hL.out
        rw [hlf] at hL2
        have HL2 := Lib.hid hL2
        clear hlf hL2 hL
        go_wp2_with (at_builtin; go_loud (refine wpList_append_own _ rfl _ _ 26 rfl w.heap.size 9 i0 (.string ⟨#[]⟩) 1 16 Tryd.underlying26 hi hz0 hz1 hz2 rfl (by decide) _ n (acc.map Value.string) rfl (hO.out.alloc _) ⟨wr.heap.size, 0, none⟩ 1 1 [.string (s.extract f s.size)] rfl rfl (cell_one_new _ _ _) (by simp [Value.oneCell']) (by unfold maxLen; omega) (by omega) (by have := hB.out.size; simp; omega) ?_); intro v' w1 hown' hgr _)
        go_ret
        rw [← HL2.out]
        refine ⟨v', rfl, ?_, (hB.out.alloc hB.out.size _).grown hgr (by have := hB.out.size; simp; omega) (fun k e => (hO.out.lt k e).1)⟩
        rw [List.length_append, List.length_singleton, hN.out, List.map_append]
        exact hown'
      · have hL2 := hL.out
        rw [linesFrom_end s f (by omega), List.append_nil] at hL2
        have HL2 := Lib.hid hL2
        clear hL hL2
        go_wp2
        go_ret
        rw [← HL2.out, hN.out]
        exact ⟨_, rfl, hO.out, hB.out⟩

end Go.Proofs.YthebooikmkegcaaDoor
