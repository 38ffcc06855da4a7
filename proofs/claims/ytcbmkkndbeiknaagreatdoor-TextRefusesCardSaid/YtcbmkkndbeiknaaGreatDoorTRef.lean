/- TextRefuses: the walk of the law. -/
import Derived.Test.YtcbmkkndbeiknaaGreatDoorHead
import Derived.Test.YtcbmkkndbeiknaaGreatDoorWak
namespace Go.Proofs.YtcbmkkndbeiknaaGreatDoor
open Go.RowKit Go.Maps

theorem emptyF' (s : ByteArray) (h : 0 < s.size) : s.toList.isEmpty = false := by
  have hl : s.data.toList.length = s.size := by simp
  rw [ByteArray.toList_eq, List.isEmpty_eq_false_iff]
  intro e; rw [e] at hl; simp at hl; omega
theorem emptyT' (s : ByteArray) (h : s.size = 0) : s.toList.isEmpty = true := by
  have hl : s.data.toList.length = s.size := by simp
  rw [ByteArray.toList_eq, List.isEmpty_iff]
  exact List.eq_nil_of_length_eq_zero (by omega)

/-- whether texts are too large for a difference -/
def largeF (l : List ByteArray) : Bool := l.any fun s => decide (3000 < s.size)

set_option maxHeartbeats 2000000 in
set_option maxRecDepth 100000 in
theorem large_any (A : Option Addr) (c : Nat) (l : List ByteArray) (w : World) (hl : l.length ≤ 1000) (h : Rd w w.heap.size A (l.map Value.string)) :
    Calls Tryz.prog 7 #[.slice A l.length c] w fun e w' => e = .returned (.bool (largeF l)) ∧ Below w.heap.size w w' := by
  have H1 := Lib.hid h
  clear h
  go_enter Tryz.func7, Tryz.ntmps7
  go_wp2
  go_loopw [3] (fun vi wr => ∃ k : Nat, k ≤ l.length ∧ vi = .int .i64 k ∧ Hid (largeF (l.take k) = false) ∧ Below w.heap.size w wr) (fun vi _ => l.length - (intOf vi).toNat)
  case atStart => exact ⟨0, Nat.zero_le _, rfl, rfl, Below.refl _ _⟩
  case round =>
    obtain ⟨k, hk, rfl, hT, hB⟩ := hrel
    by_cases hlt : k < l.length
    · have hlA : 0 < (l.map Value.string).length := by rw [List.length_map]; omega
      obtain ⟨ba1, oa1, eA, hBa, hca1⟩ := H1.out hlA
      have cA := (hB.cell (p := ⟨ba1, oa1 + k, none⟩) hBa).trans (hca1 k (.string l[k]) (by simp [hlt]))
      cases eA
      have ht : largeF (l.take (k + 1)) = (largeF (l.take k) || decide (3000 < l[k].size)) := by
        unfold largeF; rw [List.take_succ_eq_append_getElem hlt, List.any_append]; simp
      have hy : 3000 < l[k].size → largeF l = true := fun g => List.any_eq_true.2 ⟨l[k], List.getElem_mem _, by simpa using g⟩
      generalize l[k] = x at *
      have HT2 := Lib.hid ht
      have HY := Lib.hid hy
      clear hlA hca1 ht hy
      by_cases q : 3000 < x.size
      · have HV := Lib.hid (HY.out q)
        go_wp2
        go_ret
        exact ⟨by rw [HV.out]; rfl, hB⟩
      · have HV : Hid (decide (3000 < x.size) = false) := decide_eq_false q
        go_wp2
        go_roundw
        case rel => exact ⟨k + 1, by omega, by go_num, by unfold Hid; rw [HT2.out, hT.out, HV.out]; rfl, hB⟩
        case measure => simp [intOf]; omega
    · obtain rfl : k = l.length := by omega
      have HV : Hid (largeF l = false) := by have := hT.out; rwa [List.take_length] at this
      go_wp2
      go_ret
      exact ⟨by rw [HV.out]; rfl, hB⟩

set_option maxHeartbeats 4000000 in
set_option maxRecDepth 100000 in
theorem textRefuses_any (haw : ∀ W, Tab W → Calls Tryz.prog 13 #[] W fun e w' => e = .returned (.bool true) ∧ Below W.heap.size W w')
    (hI : ∀ (s : ByteArray) (c : UInt8) W, Calls Tryz.prog 145 #[.string s, .string ⟨#[c]⟩] W fun e w' => e = .returned (.int .i64 (Lib.indexByte s.data.toList c)) ∧ w' = W)
    (hP : ∀ (s p : ByteArray) W, Calls Tryz.prog 139 #[.string s, .string p] W fun e w' => e = .returned (.bool (Lib.hasPrefix s.data.toList p.data.toList)) ∧ w' = W)
    (hS : ∀ (s p : ByteArray) W, s.size ≤ 8000000 → Calls Tryz.prog 91 #[.string s, .string p] W fun e w' => e = .returned (.bool (Lib.hasSuffix s.data.toList p.data.toList)) ∧ w' = W)
    (s d : ByteArray) (w : World) (ht : Tab w) (_hs : s.size ≤ 140737488355328) (hd : d.size ≤ 140737488355328) :
    Calls Tryz.prog 4 #[.string s, .string d] w fun e w' => e = .returned (.bool true) ∧ Below w.heap.size w w' := by
  have HT := Lib.hid ht
  have HAW := Lib.hid haw
  have LG : ∀ W : World, Calls Tryz.prog 7 #[.slice (some ⟨W.heap.size, 0, none⟩) 2 2] (W.alloc (.cells #[.string s, .string d] 9)) fun e w' => e = .returned (.bool (largeF [s, d])) ∧ Below W.heap.size W w' := fun W => by
    have h := large_any (some ⟨W.heap.size, 0, none⟩) 2 [s, d] (W.alloc (.cells #[.string s, .string d] 9)) (by simp) (fun _ => ⟨W.heap.size, 0, rfl, by simp, fun j u hu => by
      have := news_new W 9 #[.string s, .string d] j u (by simpa using hu)
      rwa [Addr.add_lit] at this⟩)
    refine h.mono fun e w' ⟨h1, h2⟩ => ⟨h1, ((Below.refl _ W).alloc (Nat.le_refl _) _).trans (h2.mono (by simp))⟩
  cases hlg : largeF [s, d]
  · simp only [hlg] at LG
    have HLG := Lib.hid LG
    have hsz : s.size ≤ 3000 ∧ d.size ≤ 3000 := by
      unfold largeF at hlg; simp at hlg; omega
    obtain ⟨hs3, hd3⟩ := hsz
    by_cases h0 : d.size = 0
    · have hem := emptyT' d h0
      clear hlg LG ht haw hI hP hS h0 hd3 hd
      go_enter Tryz.func4, Tryz.ntmps4
      go_wp2_with fail
      refine (HLG.out _).mono ?_
      rintro e w1 ⟨rfl, hb1⟩
      go_wp2
      go_ret
      exact ⟨rfl, hb1⟩
    · have hem := emptyF' d (by omega)
      cases hh : headB d
      · have hH := fun (x : ByteArray) W (hx : x.size ≤ 8000000) (hb : headB x = false) => readHead_bad hI hP hS x W hx hb
        have hR := fun (x : ByteArray) W (hx : x.size ≤ 8000000) (hx0 : 0 < x.size) (hb : headB x = false) => readHunks_bad hH x W hx0 hb hx
        have P1 := fun W => patch_bad hR s d W hs3 hd3 (by omega) hh
        have P2 := fun W => reverse_bad hR d W hd3 (by omega) hh
        have HP1 := Lib.hid P1
        have HP2 := Lib.hid P2
        have key : ¬ (3 : Int) ≤ d.size ∨ ((3 : Int) ≤ d.size ∧ ((d.extract 0 3).toList == [64, 64, 32]) = false) := by
          by_cases q : (3 : Int) ≤ d.size
          · refine .inr ⟨q, ?_⟩
            rw [ByteArray.toList_eq, ByteArray.data_extract, Array.toList_extract]
            cases e : List.extract d.data.toList 0 3 == [64, 64, 32]
            · rfl
            · have e2 := eq_of_beq e
              simp [List.extract] at e2
              unfold headB Lib.hasPrefix at hh
              have : [64, 64, 32].isPrefixOf d.data.toList = true := List.isPrefixOf_iff_prefix.2 (by rw [← e2]; exact List.take_prefix _ _)
              rw [this] at hh; cases hh
          · exact .inl q
        clear hlg LG ht haw hI hP hS h0 hd hH hR P1 P2 hh
        rcases key with k1 | ⟨k1, k2⟩
        all_goals
          go_enter Tryz.func4, Tryz.ntmps4
          go_wp2_with fail
          refine (HLG.out _).mono ?_
          rintro e w1 ⟨rfl, hb1⟩
          have HB1 := Lib.hid hb1
          clear hb1
          go_wp2_with fail
          refine (HP1.out _).mono ?_
          rintro e w2 ⟨rfl, hb2⟩
          have HB2 := Lib.hid (HB1.out.trans (hb2.mono HB1.out.size))
          clear hb2 HB1
          go_wp2_with fail
          refine (HP2.out _).mono ?_
          rintro e w3 ⟨rfl, hb3⟩
          have HB3 := Lib.hid (HB2.out.trans (hb3.mono HB2.out.size))
          have A3 := Lib.hid (HAW.out w3 (HT.out.below HB3.out))
          clear hb3 HB2
          go_wp2_with fail
          refine A3.out.mono ?_
          rintro e w4 ⟨rfl, hb4⟩
          have HB4 := Lib.hid (HB3.out.trans (hb4.mono HB3.out.size))
          clear hb4 HB3 A3
          go_wp2
          go_ret
          exact ⟨rfl, HB4.out⟩
      · have hp := List.isPrefixOf_iff_prefix.1 hh
        have hl3 := hp.length_le
        have k1 : (3 : Int) ≤ d.size := by
          have : d.data.toList.length = d.size := by simp
          simp at hl3; omega
        have k2 : ((d.extract 0 3).toList == [64, 64, 32]) = true := by
          rw [ByteArray.toList_eq, ByteArray.data_extract, Array.toList_extract]
          obtain ⟨t, ht'⟩ := hp
          rw [← ht']; rfl
        clear hlg LG ht haw hI hP hS h0 hd hh hp hl3
        go_enter Tryz.func4, Tryz.ntmps4
        go_wp2_with fail
        refine (HLG.out _).mono ?_
        rintro e w1 ⟨rfl, hb1⟩
        go_wp2
        go_ret
        exact ⟨rfl, hb1⟩
  · simp only [hlg] at LG
    have HLG := Lib.hid LG
    clear hlg LG ht haw hI hP hS
    go_enter Tryz.func4, Tryz.ntmps4
    go_wp2_with fail
    refine (HLG.out _).mono ?_
    rintro e w1 ⟨rfl, hb1⟩
    go_wp2
    go_ret
    exact ⟨rfl, hb1⟩

end Go.Proofs.YtcbmkkndbeiknaaGreatDoor
