/- compare: the difference of two texts' lines. -/
import Derived.Test.YtcbmkkndbeiknaaGreatDoorMostN
import Derived.Test.YtcbmkkndbeiknaaGreatDoorSide
import Derived.RegionTactic
namespace Go.Proofs.YtcbmkkndbeiknaaGreatDoor
open Go.RowKit Go.Maps

/-- the difference of two lists of lines -/
def cmpL : List ByteArray → List ByteArray → List St
  | [], [] => []
  | [], y :: b => ⟨43, y⟩ :: cmpL [] b
  | x :: a, [] => ⟨45, x⟩ :: cmpL a []
  | x :: a, y :: b => if x = y then ⟨32, x⟩ :: cmpL a b else if lcsL a (y :: b) ≥ lcsL (x :: a) b then ⟨45, x⟩ :: cmpL a (y :: b) else ⟨43, y⟩ :: cmpL (x :: a) b
termination_by a b => a.length + b.length

theorem cmpL_length : ∀ a b : List ByteArray, (cmpL a b).length ≤ a.length + b.length
  | [], [] => by rw [cmpL]; simp
  | [], y :: b => by
    rw [cmpL]
    have := cmpL_length [] b
    simp only [List.length_cons, List.length_nil] at *
    omega
  | x :: a, [] => by
    rw [cmpL]
    have := cmpL_length a []
    simp only [List.length_cons, List.length_nil] at *
    omega
  | x :: a, y :: b => by
    rw [cmpL]
    have h1 := cmpL_length a b
    have h2 := cmpL_length a (y :: b)
    have h3 := cmpL_length (x :: a) b
    simp only [List.length_cons] at *
    split
    · simp only [List.length_cons]; omega
    · split <;> (simp only [List.length_cons]; omega)
termination_by a b => a.length + b.length

/-- .. from places on -/
def cmpN (a b : List ByteArray) (i j : Nat) : List St := cmpL (a.drop i) (b.drop j)

theorem cmpN_end (a b : List ByteArray) (i j : Nat) (hi : a.length ≤ i) (hj : b.length ≤ j) : cmpN a b i j = [] := by
  unfold cmpN; rw [List.drop_eq_nil_of_le hi, List.drop_eq_nil_of_le hj, cmpL]
theorem cmpN_come (a b : List ByteArray) (i j : Nat) (hi : a.length ≤ i) (hj : j < b.length) : cmpN a b i j = ⟨43, b[j]⟩ :: cmpN a b i (j + 1) := by
  unfold cmpN; rw [List.drop_eq_nil_of_le hi, List.drop_eq_getElem_cons hj, cmpL]
theorem cmpN_gone (a b : List ByteArray) (i j : Nat) (hi : i < a.length) (hj : b.length ≤ j) : cmpN a b i j = ⟨45, a[i]⟩ :: cmpN a b (i + 1) j := by
  unfold cmpN; rw [List.drop_eq_nil_of_le hj, List.drop_eq_getElem_cons hi, cmpL]
theorem cmpN_both (a b : List ByteArray) (i j : Nat) (hi : i < a.length) (hj : j < b.length) :
    cmpN a b i j = if a[i] = b[j] then ⟨32, a[i]⟩ :: cmpN a b (i + 1) (j + 1) else if keepN a b (i + 1) j ≥ keepN a b i (j + 1) then ⟨45, a[i]⟩ :: cmpN a b (i + 1) j else ⟨43, b[j]⟩ :: cmpN a b i (j + 1) := by
  unfold cmpN keepN
  rw [List.drop_eq_getElem_cons hi, List.drop_eq_getElem_cons hj, cmpL, ← List.drop_eq_getElem_cons hi, ← List.drop_eq_getElem_cons hj]

theorem infoSt : (Tryz.prog.info? 72).map (fun i => (i.zero, i.size, i.bytes)) = some (some (.agg #[.int .u8 0, .string ⟨#[]⟩]), 2, 24) := by kernel_rfl

theorem ssl_of_own {w : World} {base n : Nat} {v : Value} {l : List St} (hn : n = l.length) (h : w.ownsRow base 72 2 v n (cellsS l)) : ∃ A' c', v = .slice A' l.length c' ∧ l.length ≤ c' ∧ c' ≤ maxLen ∧ SSl w w.heap.size A' l := by
  subst hn
  rcases h.2 with ⟨e, e0⟩ | ⟨g, cap, cur, e, hb, hg, hn, hc, hs, ht⟩
  · have : l = [] := List.eq_nil_of_length_eq_zero e0
    subst this
    exact ⟨none, 0, e, Nat.le_refl _, by unfold maxLen; omega, fun hl => by simp [cellsS] at hl⟩
  · refine ⟨some ⟨g, 0, none⟩, cap, e, hn, hc, fun hl => ?_⟩
    obtain ⟨b, off, e2, h2, h3⟩ := Rd.of_own (A := some ⟨g, 0, none⟩) (c := cap) (by rw [← e]; exact h) hl
    exact ⟨b, off, e2, h2, h3⟩

theorem TabW.grown {w w' : World} {gt n m : Nat} {rows : List Nat} {V : Nat → Nat → Nat} {base g k cap : Nat} {xs : List Value} (h : TabW w gt n m rows V) (ho : w.ownsRow base 72 2 (.slice (some ⟨g, 0, none⟩) k cap) k xs) (hg : w.grownBy w' (some g)) : TabW w' gt n m rows V := by
  have hb : ∃ cs, w.heap[g]? = some (.cells cs 72 (0, 0)) := by
    rcases ho.2 with ⟨e, _⟩ | ⟨g', c', cs, e, _, hg, _⟩
    · cases e
    · cases e; exact ⟨cs, hg⟩
  obtain ⟨cs, hb⟩ := hb
  obtain ⟨h1, h2, h3, h4, h5⟩ := h
  refine ⟨h1.grown hg (fun e => ?_), h2, h3, h4, fun r hr => (h5 r hr).grown hg (fun e => ?_)⟩
  · injection e with e
    subst e
    unfold CellsB at h1
    rw [hb] at h1
    injection h1 with h1
    injection h1 with _ h1 _
    exact absurd h1 (by decide)
  · injection e with e
    have := h5 r hr
    unfold IntsB at this
    rw [e, hb] at this
    injection this with this
    injection this with _ this _
    exact absurd this (by decide)

theorem strNe {x y : ByteArray} (h : x ≠ y) : (x.toList == y.toList) = false := by
  cases e : x.toList == y.toList
  · rfl
  · have e2 := eq_of_beq e
    rw [ByteArray.toList_eq, ByteArray.toList_eq] at e2
    exact absurd (by cases x; cases y; simp_all) h

theorem Rd.strs {w : World} {B : Nat} {A : Option Addr} {x : ByteArray} {l : List ByteArray} (h : Rd w B A ((x :: l).map Value.string)) : ∃ b off, A = some ⟨b, off, none⟩ ∧ b < B ∧ w.cell? ⟨b, off, none⟩ = some (.string x) ∧ Rd w B (some ⟨b, off + 1, none⟩) (l.map Value.string) := by
  obtain ⟨b, off, e, hB, hc⟩ := h (by simp)
  refine ⟨b, off, e, hB, hc 0 _ (by simp), fun _ => ⟨b, off + 1, rfl, hB, fun q u hu => ?_⟩⟩
  have := hc (q + 1) u (by simpa using hu)
  rwa [show off + 1 + q = off + (q + 1) by omega]

theorem Rd.strs_any {w : World} {B : Nat} {A : Option Addr} {l : List ByteArray} (h : l ≠ [] → Rd w B A (l.map Value.string)) : Rd w B A (l.map Value.string) := by
  by_cases e : l = []
  · subst e; intro hl; simp at hl
  · exact h e

set_option maxHeartbeats 8000000 in
set_option maxRecDepth 100000 in
theorem compare_any (A A2 : Option Addr) (c c2 : Nat) (a b : List ByteArray) (w : World) (ha : a.length ≤ 2000) (hb : b.length ≤ 2000) (hxa : ∀ x ∈ a, x.size ≤ 8000000) (hxb : ∀ x ∈ b, x.size ≤ 8000000)
    (hc : a.length ≤ c) (hc1 : c ≤ maxLen) (hc2 : b.length ≤ c2) (hc3 : c2 ≤ maxLen)
    (h1 : Rd w w.heap.size A (a.map Value.string)) (h2 : Rd w w.heap.size A2 (b.map Value.string)) :
    Calls Tryz.prog 37 #[.slice A a.length c, .slice A2 b.length c2] w fun e w' => ∃ A' c', e = .returned (.slice A' (cmpL a b).length c') ∧ (cmpL a b).length ≤ c' ∧ c' ≤ maxLen ∧ SSl w' w'.heap.size A' (cmpL a b) ∧ Below w.heap.size w w' := by
  obtain ⟨i0, hi, hz0, hz1, hz2⟩ := info_parts infoSt
  have H1 := Lib.hid h1
  have H2 := Lib.hid h2
  clear h1 h2
  unfold maxLen at hc1 hc3
  go_enter Tryz.func37, Tryz.ntmps37
  go_wp2_with (at_make; go_loud (refine wpList_make_own _ rfl _ _ 64 rfl w.heap.size 72 i0 (.agg #[.int .u8 0, .string ⟨#[]⟩]) 2 Tryz.underlying64 hi hz0 hz1 .i64 .i64 _ (a.length + b.length) rfl rfl (by omega) (by rw [hz2]; omega) (by unfold maxLen; omega) (Nat.le_refl _) ?_); intro w1 hown hg1)
  have HO1 := Lib.hid hown
  have HB1 := Lib.hid ((Below.refl w.heap.size w).grown hg1 (Nat.le_refl _) (by simp))
  clear hown hg1
  generalize hcap : a.length + b.length = cap at *
  go_loopw [0, 1, 5] (fun va vb vl wr => ∃ (k : Nat) (a' b' : List ByteArray) (ls : List St) (A' B' : Option Addr) (c' d' : Nat), va = .slice A' a'.length c' ∧ vb = .slice B' b'.length d' ∧ vl = .slice (some ⟨w.heap.size, 0, none⟩) k cap ∧ a'.length ≤ c' ∧ b'.length ≤ d' ∧ c' ≤ c ∧ d' ≤ c2 ∧
      a'.length + k = a.length ∧ b'.length + k = b.length ∧ Hid (∀ x ∈ a', x.size ≤ 8000000) ∧ Hid (∀ x ∈ b', x.size ≤ 8000000) ∧ Hid (Rd w w.heap.size A' (a'.map Value.string)) ∧ Hid (Rd w w.heap.size B' (b'.map Value.string)) ∧
      Hid (ls ++ cmpL a' b' = cmpL a b ∧ ls.length = k) ∧ Hid (wr.ownsRow w.heap.size 72 2 (.slice (some ⟨w.heap.size, 0, none⟩) k cap) k (cellsS ls)) ∧ Hid (Below w.heap.size w wr)) (fun va _ _ _ => match va with | .slice _ n _ => n | _ => 0)
  case atStart => exact ⟨0, a, b, [], A, A2, c, c2, rfl, rfl, rfl, hc, hc2, Nat.le_refl _, Nat.le_refl _, rfl, rfl, hxa, hxb, H1.out, H2.out, ⟨rfl, rfl⟩, HO1.out, HB1.out⟩
  case round =>
    obtain ⟨k, a', b', ls, A', B', c', d', rfl, rfl, rfl, k1, k2, k3, k4, k5, k6, hx, hy, hA, hB, hL, hO, hb⟩ := hrel
    clear HO1 HB1 H1 H2 hxa hxb
    by_cases q : ∃ x a'' b'', a' = x :: a'' ∧ b' = x :: b''
    · obtain ⟨x, a'', b'', rfl, rfl⟩ := q
      obtain ⟨ba, oa, rfl, hba, hca, hra⟩ := hA.out.strs
      obtain ⟨bb, ob, rfl, hbb, hcb, hrb⟩ := hB.out.strs
      have hL1 := hL.out
      rw [cmpL, if_pos rfl] at hL1
      have hca2 := (hb.out.cell (p := ⟨ba, oa, none⟩) hba).trans hca
      have hcb2 := (hb.out.cell (p := ⟨bb, ob, none⟩) hbb).trans hcb
      have HL := Lib.hid hL1
      have HRA := Lib.hid hra
      have HRB := Lib.hid hrb
      have HX := Lib.hid (fun y hy => hx.out y (List.mem_cons_of_mem _ hy))
      have HY := Lib.hid (fun y hy' => hy.out y (List.mem_cons_of_mem _ hy'))
      clear hL hL1 hca hcb hra hrb hx hy hA hB
      simp only [List.length_cons] at *
      have hnw := fun W (x y : Value) => news_new W 72 #[x, y]
      have HNW := Lib.hid hnw
      clear hnw
      go_wp2
      go_region
      go_wp2_with (at_builtin; refine wpList_append_fits _ rfl (.tmp 32) (.tmp 37) 64 rfl w.heap.size 72 i0 2 Tryz.underlying64 hi hz1 w.heap.size k cap (cellsS ls) rfl (hO.out.alloc _) ⟨wr.heap.size, 0, none⟩ 1 1 [.int .u8 32, .string x] rfl rfl (HNW.out _ _ _) (by simp [Value.oneCell']) (by omega) ?_; intro w2 hown2 hg2)
      have HO2 := Lib.hid hown2
      have HB2 := Lib.hid (((hb.out.alloc hb.out.size _).drew).grown hg2 (by have := hb.out.size; simp; omega) (fun g e => by cases e; exact Nat.le_refl _))
      clear hown2 hg2 hO HNW
      go_region
      go_wp2
      go_roundw
      case rel =>
        refine ⟨k + 1, a'', b'', ls ++ [⟨32, x⟩], _, _, _, _, rfl, rfl, rfl, by omega, by omega, by omega, by omega, by omega, by omega, HX.out, HY.out, ?_, ?_, ?_, ?_, HB2.out.drew⟩
        · refine Rd.strs_any fun hne => ?_
          have : a''.length ≠ 0 := fun e => hne (List.eq_nil_of_length_eq_zero e)
          rw [if_neg (by omega)]
          exact HRA.out
        · refine Rd.strs_any fun hne => ?_
          have : b''.length ≠ 0 := fun e => hne (List.eq_nil_of_length_eq_zero e)
          rw [if_neg (by omega)]
          exact HRB.out
        · exact ⟨by rw [← HL.out.1]; simp, by simp [HL.out.2]⟩
        · have e : cellsS (ls ++ [⟨32, x⟩]) = cellsS ls ++ [.int .u8 32, .string x] := by simp [cellsS, St.cells]
          unfold Hid
          rw [e]
          exact HO2.out
      case measure => simp
    · have k7 : a'.length ≤ 2000 := by omega
      have k8 : b'.length ≤ 2000 := by omega
      have hsz := hb.out.size
      have hrA := (hA.out.below hb.out).more hsz
      have hrB := (hB.out.below hb.out).more hsz
      have hmk := mostKept_any A' B' c' d' a' b' wr.drew k7 k8 hx.out hy.out hrA hrB
      have HMK := Lib.hid hmk
      have HAA := Lib.hid hrA
      have HBB := Lib.hid hrB
      have HTRI : (¬ 0 < a'.length) ∨ (0 < a'.length ∧ ¬ 0 < b'.length) ∨ ∃ x y ba oa bb ob, A' = some ⟨ba, oa, none⟩ ∧ B' = some ⟨bb, ob, none⟩ ∧ 0 < a'.length ∧ 0 < b'.length ∧ wr.cell? ⟨ba, oa, none⟩ = some (.string x) ∧ wr.cell? ⟨bb, ob, none⟩ = some (.string y) ∧ x ≠ y := by
        rcases a' with _ | ⟨x, a''⟩
        · exact .inl (by simp)
        rcases b' with _ | ⟨y, b''⟩
        · exact .inr (.inl ⟨by simp, by simp⟩)
        · obtain ⟨ba, oa, rfl, hba, hca, hra⟩ := hrA.strs
          obtain ⟨bb, ob, rfl, hbb, hcb, hrb⟩ := hrB.strs
          exact .inr (.inr ⟨x, y, ba, oa, bb, ob, rfl, rfl, by simp, by simp, hca, hcb, fun e => q ⟨x, a'', b'', rfl, by rw [e]⟩⟩)
      clear hmk hrA hrB q hx hy
      rcases HTRI with h0 | ⟨h0, h1⟩ | ⟨x, y, ba, oa, bb, ob, rfl, rfl, h0, h1, hca, hcb, hne⟩
      case' inr.inr => have hdec := strNe hne; clear hne
      all_goals
        go_wp2
        go_region
        go_wp2_with fail
        clear h0
        try clear h1
        refine HMK.out.mono ?_
        rintro e w2 ⟨gt, rows, rfl, hT, hB2⟩
        have hBW2 := Lib.hid (show Below wr.heap.size wr w2 from ⟨hB2.os, hB2.tape, hB2.output, hB2.size, hB2.block⟩)
        clear HMK
        have HT := Lib.hid hT
        have hBB2 := hb.out.drew.trans (hB2.mono hsz)
        have HB2 := Lib.hid hBB2
        have HA2 := Lib.hid (HAA.out.below (w := wr.drew) hB2)
        have HBB2 := Lib.hid (HBB.out.below (w := wr.drew) hB2)
        clear hT hB2 hBB2 HAA HBB
        go_wp2
        obtain ⟨we, rfl⟩ : ∃ we : World, we = wr := ⟨_, rfl⟩
        go_loopw [5, 7, 8] (fun vl vi vj wr => ∃ (i j n : Nat) (m : List St), vi = .int .i64 i ∧ vj = .int .i64 j ∧ vl = .slice (some ⟨w.heap.size, 0, none⟩) n cap ∧ i ≤ a'.length ∧ j ≤ b'.length ∧ n ≤ k + i + j ∧ Hid (m ++ cmpN a' b' i j = cmpL a b ∧ m.length = n) ∧
            Hid (wr.ownsRow w.heap.size 72 2 (.slice (some ⟨w.heap.size, 0, none⟩) n cap) n (cellsS m)) ∧ Hid (TabW wr gt a'.length b'.length rows (keepN a' b')) ∧ Hid (Below w.heap.size w wr)) (fun _ vi vj _ => a'.length + b'.length - ((intOf vi).toNat + (intOf vj).toNat))
        case atStart => exact ⟨0, 0, k, ls, rfl, rfl, rfl, Nat.zero_le _, Nat.zero_le _, Nat.le_refl _, hL.out, (hO.out.drew.kept (row := none) ⟨hBW2.out.os, hBW2.out.tape, hBW2.out.output, hBW2.out.size, fun k hk _ => hBW2.out.block k hk⟩ (by simp [Value.ownBlock])), HT.out, HB2.out⟩
        case round =>
          obtain ⟨i, j, n, m, rfl, rfl, rfl, g1, g2, g3, hM, hO, hT, hb⟩ := hrel
          clear HT HB2 HA2 HBB2 hBW2
          have hnw := fun W (x y : Value) => news_new W 72 #[x, y]
          have HNW := Lib.hid hnw
          clear hnw
          by_cases q1 : i < a'.length
          · by_cases q2 : j < b'.length
            · have hM1 := hM.out
              rw [cmpN_both _ _ _ _ q1 q2] at hM1
              have hlA : 0 < (a'.map Value.string).length := by rw [List.length_map]; omega
              obtain ⟨ba1, oa1, eA, hBa, hca1⟩ := hA.out hlA
              have cA := (hb.out.cell (p := ⟨ba1, oa1 + i, none⟩) hBa).trans (hca1 i (.string a'[i]) (by simp [q1]))
              clear hlA hca1
              have hlB : 0 < (b'.map Value.string).length := by rw [List.length_map]; omega
              obtain ⟨bb1, ob1, eB, hBb, hcb1⟩ := hB.out hlB
              have cB := (hb.out.cell (p := ⟨bb1, ob1 + j, none⟩) hBb).trans (hcb1 j (.string b'[j]) (by simp [q2]))
              clear hlB hcb1
              have t1 := hT.out.top (i + 1) (by omega)
              have t2 := hT.out.top i (by omega)
              have hl := hT.out.2.1
              have m1 := hT.out.cell' (i + 1) j _ (List.getElem?_eq_getElem (by omega)) (by omega)
              have m2 := hT.out.cell' i (j + 1) _ (List.getElem?_eq_getElem (by omega)) (by omega)
              generalize rows[i]'(by omega) = ri at *
              generalize rows[i + 1]'(by omega) = rj at *
              have z1 := keepN_le a' b' (i + 1) j
              have z2 := keepN_le a' b' i (j + 1)
              cases eA
              cases eB
              generalize a'[i] = x1 at *
              generalize b'[j] = y1 at *
              have e1 : ((i : Int) + 1).toNat = i + 1 := by omega
              have e2 : ((j : Int) + 1).toNat = j + 1 := by omega
              by_cases hxy : x1 = y1
              · subst hxy
                rw [if_pos rfl] at hM1
                have HM := Lib.hid hM1
                clear hM hM1 t1 t2 m1 m2 z1 z2 hl e1 e2
                go_wp2
                go_region
                go_wp2_with (at_builtin; refine wpList_append_fits _ rfl _ _ 64 rfl w.heap.size 72 i0 2 Tryz.underlying64 hi hz1 w.heap.size n cap (cellsS m) rfl (hO.out.alloc _) ⟨wr.heap.size, 0, none⟩ 1 1 [.int .u8 32, .string x1] rfl rfl (HNW.out _ _ _) (by simp [Value.oneCell']) (by omega) ?_; intro w9 hown9 hg9)
                have HO9 := Lib.hid hown9
                have HB9 := Lib.hid (((hb.out.alloc hb.out.size _).drew).grown hg9 (by have := hb.out.size; simp; omega) (fun g e => by cases e; exact Nat.le_refl _))
                have HT9 := Lib.hid (TabW.grown (hT.out.kept (((Below.refl wr.heap.size wr).alloc (Nat.le_refl _) _).drew)) (hO.out.alloc _) hg9)
                clear hown9 hg9 hO HNW hT hb
                go_wp2
                go_roundw
                case rel =>
                  refine ⟨i + 1, j + 1, n + 1, m ++ [⟨32, x1⟩], by go_num, by go_num, by go_num, by omega, by omega, by omega, ⟨by rw [← HM.out.1]; simp, by simp [HM.out.2]⟩, ?_, HT9.out, HB9.out⟩
                  have e : cellsS (m ++ [⟨32, x1⟩]) = cellsS m ++ [.int .u8 32, .string x1] := by simp [cellsS, St.cells]
                  unfold Hid
                  rw [e]
                  exact HO9.out
                case measure => simp [intOf]; omega
              · rw [if_neg hxy] at hM1
                have hdec1 := strNe hxy
                have hje1 : ¬ j = b'.length := by omega
                have hje2 : ((j : Int) == (b'.length : Int)) = false := by simp; omega
                have hje3 : ¬ (j : Int) = b'.length := by omega
                by_cases hge : keepN a' b' (i + 1) j ≥ keepN a' b' i (j + 1)
                · rw [if_pos hge] at hM1
                  have HM := Lib.hid hM1
                  generalize keepN a' b' (i + 1) j = p1 at *
                  generalize keepN a' b' i (j + 1) = p2 at *
                  have hge2 : (p2 : Int) ≤ p1 := by omega
                  clear hM hM1 hxy hl hge
                  go_wp2
                  go_region
                  go_wp2
                  go_region
                  go_wp2_with (at_builtin; refine wpList_append_fits _ rfl _ _ 64 rfl w.heap.size 72 i0 2 Tryz.underlying64 hi hz1 w.heap.size n cap (cellsS m) rfl (hO.out.alloc _) ⟨wr.heap.size, 0, none⟩ 1 1 [.int .u8 45, .string x1] rfl rfl (HNW.out _ _ _) (by simp [Value.oneCell']) (by omega) ?_; intro w9 hown9 hg9)
                  have HO9 := Lib.hid hown9
                  have HB9 := Lib.hid (((hb.out.alloc hb.out.size _).drew.drew).grown hg9 (by have := hb.out.size; simp; omega) (fun g e => by cases e; exact Nat.le_refl _))
                  have HT9 := Lib.hid (TabW.grown (hT.out.kept (((Below.refl wr.heap.size wr).alloc (Nat.le_refl _) _).drew.drew)) (hO.out.alloc _) hg9)
                  clear hown9 hg9 hO HNW hT hb
                  go_wp2
                  go_roundw
                  case rel =>
                    refine ⟨i + 1, j + 0, n + 1, m ++ [⟨45, x1⟩], by go_num, by go_num, by go_num, by omega, by omega, by omega, ⟨by rw [← HM.out.1]; simp, by simp [HM.out.2]⟩, ?_, HT9.out, HB9.out⟩
                    have e : cellsS (m ++ [⟨45, x1⟩]) = cellsS m ++ [.int .u8 45, .string x1] := by simp [cellsS, St.cells]
                    unfold Hid
                    rw [e]
                    exact HO9.out
                  case measure => simp [intOf]; omega
                · rw [if_neg hge] at hM1
                  have HM := Lib.hid hM1
                  generalize keepN a' b' (i + 1) j = p1 at *
                  generalize keepN a' b' i (j + 1) = p2 at *
                  have hge2 : ¬ (p2 : Int) ≤ p1 := by omega
                  clear hM hM1 hxy hl hge
                  go_wp2
                  go_region
                  go_wp2
                  go_region
                  go_wp2_with (at_builtin; refine wpList_append_fits _ rfl _ _ 64 rfl w.heap.size 72 i0 2 Tryz.underlying64 hi hz1 w.heap.size n cap (cellsS m) rfl (hO.out.alloc _) ⟨wr.heap.size, 0, none⟩ 1 1 [.int .u8 43, .string y1] rfl rfl (HNW.out _ _ _) (by simp [Value.oneCell']) (by omega) ?_; intro w9 hown9 hg9)
                  have HO9 := Lib.hid hown9
                  have HB9 := Lib.hid (((hb.out.alloc hb.out.size _).drew.drew).grown hg9 (by have := hb.out.size; simp; omega) (fun g e => by cases e; exact Nat.le_refl _))
                  have HT9 := Lib.hid (TabW.grown (hT.out.kept (((Below.refl wr.heap.size wr).alloc (Nat.le_refl _) _).drew.drew)) (hO.out.alloc _) hg9)
                  clear hown9 hg9 hO HNW hT hb
                  go_wp2
                  go_roundw
                  case rel =>
                    refine ⟨i + 0, j + 1, n + 1, m ++ [⟨43, y1⟩], by go_num, by go_num, by go_num, by omega, by omega, by omega, ⟨by rw [← HM.out.1]; simp, by simp [HM.out.2]⟩, ?_, HT9.out, HB9.out⟩
                    have e : cellsS (m ++ [⟨43, y1⟩]) = cellsS m ++ [.int .u8 43, .string y1] := by simp [cellsS, St.cells]
                    unfold Hid
                    rw [e]
                    exact HO9.out
                  case measure => simp [intOf]; omega
            · have hM1 := hM.out
              obtain rfl : j = b'.length := by omega
              rw [cmpN_gone _ _ _ _ q1 (Nat.le_refl _)] at hM1
              have hlA : 0 < (a'.map Value.string).length := by rw [List.length_map]; omega
              obtain ⟨ba1, oa1, eA, hBa, hca1⟩ := hA.out hlA
              have cA := (hb.out.cell (p := ⟨ba1, oa1 + i, none⟩) hBa).trans (hca1 i (.string a'[i]) (by simp [q1]))
              clear hlA hca1
              cases eA
              generalize a'[i] = x1 at *
              have HM := Lib.hid hM1
              clear hM hM1
              go_wp2
              go_region
              go_wp2
              go_region
              go_wp2_with (at_builtin; refine wpList_append_fits _ rfl _ _ 64 rfl w.heap.size 72 i0 2 Tryz.underlying64 hi hz1 w.heap.size n cap (cellsS m) rfl (hO.out.alloc _) ⟨wr.heap.size, 0, none⟩ 1 1 [.int .u8 45, .string x1] rfl rfl (HNW.out _ _ _) (by simp [Value.oneCell']) (by omega) ?_; intro w9 hown9 hg9)
              have HO9 := Lib.hid hown9
              have HB9 := Lib.hid (((hb.out.alloc hb.out.size _).drew.drew).grown hg9 (by have := hb.out.size; simp; omega) (fun g e => by cases e; exact Nat.le_refl _))
              have HT9 := Lib.hid (TabW.grown (hT.out.kept (((Below.refl wr.heap.size wr).alloc (Nat.le_refl _) _).drew.drew)) (hO.out.alloc _) hg9)
              clear hown9 hg9 hO HNW hT hb
              go_wp2
              go_roundw
              case rel =>
                refine ⟨i + 1, b'.length, n + 1, m ++ [⟨45, x1⟩], by go_num, by go_num, by go_num, by omega, by omega, by omega, ⟨by rw [← HM.out.1]; simp, by simp [HM.out.2]⟩, ?_, HT9.out, HB9.out⟩
                have e : cellsS (m ++ [⟨45, x1⟩]) = cellsS m ++ [.int .u8 45, .string x1] := by simp [cellsS, St.cells]
                unfold Hid
                rw [e]
                exact HO9.out
              case measure => simp [intOf]; omega
          · by_cases q2 : j < b'.length
            · have hM1 := hM.out
              obtain rfl : i = a'.length := by omega
              rw [cmpN_come _ _ _ _ (Nat.le_refl _) q2] at hM1
              have hlB : 0 < (b'.map Value.string).length := by rw [List.length_map]; omega
              obtain ⟨bb1, ob1, eB, hBb, hcb1⟩ := hB.out hlB
              have cB := (hb.out.cell (p := ⟨bb1, ob1 + j, none⟩) hBb).trans (hcb1 j (.string b'[j]) (by simp [q2]))
              clear hlB hcb1
              cases eB
              generalize b'[j] = y1 at *
              have HM := Lib.hid hM1
              clear hM hM1
              go_wp2
              go_region
              go_wp2
              go_region
              go_wp2_with (at_builtin; refine wpList_append_fits _ rfl _ _ 64 rfl w.heap.size 72 i0 2 Tryz.underlying64 hi hz1 w.heap.size n cap (cellsS m) rfl (hO.out.alloc _) ⟨wr.heap.size, 0, none⟩ 1 1 [.int .u8 43, .string y1] rfl rfl (HNW.out _ _ _) (by simp [Value.oneCell']) (by omega) ?_; intro w9 hown9 hg9)
              have HO9 := Lib.hid hown9
              have HB9 := Lib.hid (((hb.out.alloc hb.out.size _).drew.drew).grown hg9 (by have := hb.out.size; simp; omega) (fun g e => by cases e; exact Nat.le_refl _))
              have HT9 := Lib.hid (TabW.grown (hT.out.kept (((Below.refl wr.heap.size wr).alloc (Nat.le_refl _) _).drew.drew)) (hO.out.alloc _) hg9)
              clear hown9 hg9 hO HNW hT hb
              go_wp2
              go_roundw
              case rel =>
                refine ⟨a'.length, j + 1, n + 1, m ++ [⟨43, y1⟩], by go_num, by go_num, by go_num, by omega, by omega, by omega, ⟨by rw [← HM.out.1]; simp, by simp [HM.out.2]⟩, ?_, HT9.out, HB9.out⟩
                have e : cellsS (m ++ [⟨43, y1⟩]) = cellsS m ++ [.int .u8 43, .string y1] := by simp [cellsS, St.cells]
                unfold Hid
                rw [e]
                exact HO9.out
              case measure => simp [intOf]; omega
            · obtain rfl : i = a'.length := by omega
              obtain rfl : j = b'.length := by omega
              have hM1 := hM.out
              rw [cmpN_end _ _ _ _ (Nat.le_refl _) (Nat.le_refl _), List.append_nil] at hM1
              obtain ⟨rfl, hn⟩ := hM1
              obtain ⟨A9, c9, e9, r1, r2, r3⟩ := ssl_of_own hn.symm hO.out
              have R1 := Lib.hid r1
              have R2 := Lib.hid r2
              have R3 := Lib.hid r3
              cases e9
              clear hO r1 r2 r3
              go_wp2
              go_ret
              exact ⟨_, _, rfl, R1.out, R2.out, R3.out, hb.out⟩

end Go.Proofs.YtcbmkkndbeiknaaGreatDoor
