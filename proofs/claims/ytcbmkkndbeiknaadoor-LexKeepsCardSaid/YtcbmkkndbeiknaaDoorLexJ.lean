/- Lex: the lists of keys and signs; names in the document. -/
import Derived.Test.YtcbmkkndbeiknaaDoorLexI
namespace Go.Proofs.YtcbmkkndbeiknaaDoor
open Go.RowKit Go.Maps Go.Shelf

theorem infoStrL : (Tryd.prog.info? 9).map (fun i => (i.zero, i.size, i.bytes)) = some (some (.string ⟨#[]⟩), 1, 16) := by kernel_rfl

set_option maxHeartbeats 4000000 in
set_option maxRecDepth 100000 in
theorem keysOf_any (n0 : Nat) (w : World) (_hn : n0 ≤ w.heap.size) (hk : WordsAt w n0 0 keysB) :
    Calls Tryd.prog 32 #[] w fun e w' => ∃ v, e = .returned v ∧ w'.ownsRow w.heap.size 9 1 v 28 (keysB.map Value.string) ∧ Below w.heap.size w w' := by
  obtain ⟨i0, hi, hz0, hz1, hz2⟩ := info_parts infoStrL
  obtain ⟨hg, B, off, c, hB, h1, h2⟩ := hk
  rw [keysB_len] at h1
  have hnw : ∀ (j : Nat) (u : Value), (keysB.map Value.string)[j]? = some u → w.cell? ((⟨B, off, none⟩ : Addr).add j) = some u := fun j u hu => by
    rw [Addr.add_lit]
    have hj : j < keysB.length := by
      have := (List.getElem?_eq_some_iff.1 hu).1
      simpa using this
    have e := h2 j hj
    rw [e]
    simpa [hj] using hu
  have HNW := Lib.hid hnw
  have hlen : (keysB.map Value.string).length = 28 := by rw [List.length_map, keysB_len]
  have HLEN := Lib.hid hlen
  clear h2 hnw hlen
  go_enter Tryd.func32, Tryd.ntmps32
  go_wp2_with (at_builtin; refine wpList_append_own _ rfl (.const (.slice none 0 0)) (.tmp 1) 42 rfl w.heap.size 9 i0 _ 1 16 Tryd.underlying42 hi hz0 hz1 hz2 rfl (by decide) _ 0 [] rfl (World.ownsRow_nil _ _ _ _) ⟨B, off, none⟩ 28 c (keysB.map Value.string) rfl HLEN.out HNW.out (by simp [Value.oneCell']) (by unfold maxLen; omega) (by omega) (by omega) ?_; intro v' w5 hown' hgr _; have HOW := Lib.hid hown'; have HGR := Lib.hid hgr; clear hown' hgr)
  go_wp2
  go_ret
  exact ⟨_, rfl, HOW.out, (Below.refl _ _).grown HGR.out (Nat.le_refl _) (fun k e => by cases e)⟩

set_option maxHeartbeats 4000000 in
set_option maxRecDepth 100000 in
theorem signsOf_any (n0 : Nat) (w : World) (_hn : n0 ≤ w.heap.size) (hk : WordsAt w n0 1 signsB) :
    Calls Tryd.prog 34 #[] w fun e w' => ∃ v, e = .returned v ∧ w'.ownsRow w.heap.size 9 1 v 47 (signsB.map Value.string) ∧ Below w.heap.size w w' := by
  obtain ⟨i0, hi, hz0, hz1, hz2⟩ := info_parts infoStrL
  obtain ⟨hg, B, off, c, hB, h1, h2⟩ := hk
  rw [signsB_len] at h1
  have hnw : ∀ (j : Nat) (u : Value), (signsB.map Value.string)[j]? = some u → w.cell? ((⟨B, off, none⟩ : Addr).add j) = some u := fun j u hu => by
    rw [Addr.add_lit]
    have hj : j < signsB.length := by
      have := (List.getElem?_eq_some_iff.1 hu).1
      simpa using this
    have e := h2 j hj
    rw [e]
    simpa [hj] using hu
  have HNW := Lib.hid hnw
  have hlen : (signsB.map Value.string).length = 47 := by rw [List.length_map, signsB_len]
  have HLEN := Lib.hid hlen
  clear h2 hnw hlen
  go_enter Tryd.func34, Tryd.ntmps34
  go_wp2_with (at_builtin; refine wpList_append_own _ rfl (.const (.slice none 0 0)) (.tmp 1) 42 rfl w.heap.size 9 i0 _ 1 16 Tryd.underlying42 hi hz0 hz1 hz2 rfl (by decide) _ 0 [] rfl (World.ownsRow_nil _ _ _ _) ⟨B, off, none⟩ 47 c (signsB.map Value.string) rfl HLEN.out HNW.out (by simp [Value.oneCell']) (by unfold maxLen; omega) (by omega) (by omega) ?_; intro v' w5 hown' hgr _; have HOW := Lib.hid hown'; have HGR := Lib.hid hgr; clear hown' hgr)
  go_wp2
  go_ret
  exact ⟨_, rfl, HOW.out, (Below.refl _ _).grown HGR.out (Nat.le_refl _) (fun k e => by cases e)⟩

set_option maxHeartbeats 1000000 in
set_option maxRecDepth 100000 in
theorem eqStr_any (A A2 : Option Addr) (c c2 : Nat) (a b : List ByteArray) (w : World) (ha : a.length ≤ 1000000) (hb : b.length ≤ 1000000) (h1 : Rd w w.heap.size A (a.map Value.string)) (h2 : Rd w w.heap.size A2 (b.map Value.string)) :
    Calls Tryd.prog 27 #[.slice A a.length c, .slice A2 b.length c2] w fun e w' => e = .returned (.bool (decide (a = b))) ∧ Below w.heap.size w w' := by
  have H1 := Lib.hid h1
  have H2 := Lib.hid h2
  clear h1 h2
  go_enter Tryd.func27, Tryd.ntmps27
  by_cases hl : a.length = b.length
  · have hlI : (a.length : Int) = b.length := by omega
    go_wp2
    have HLL := Lib.hid hl
    clear hl hlI
    go_loopw [5] (fun vi wr => ∃ k : Nat, k ≤ a.length ∧ vi = .int .i64 k ∧ Hid (a.take k = b.take k) ∧ Below w.heap.size w wr) (fun vi _ => a.length - (intOf vi).toNat)
    case atStart => exact ⟨0, Nat.zero_le _, rfl, rfl, Below.refl _ _⟩
    case round =>
      obtain ⟨k, hk, rfl, hT, hB⟩ := hrel
      by_cases hlt : k < a.length
      · have hltb : k < b.length := by have := HLL.out; omega
        have hlA : 0 < (a.map Value.string).length := by rw [List.length_map]; omega
        obtain ⟨ba1, oa1, eA, hBa, hca1⟩ := H1.out hlA
        have cA := (hB.cell (p := ⟨ba1, oa1 + k, none⟩) hBa).trans (hca1 k (.string a[k]) (by simp [hlt]))
        have hlB : 0 < (b.map Value.string).length := by rw [List.length_map]; omega
        obtain ⟨bb1, ob1, eB, hBb, hcb1⟩ := H2.out hlB
        have cB := (hB.cell (p := ⟨bb1, ob1 + k, none⟩) hBb).trans (hcb1 k (.string b[k]) (by simp [hltb]))
        have hTk := hT.out
        have t1 := List.take_succ_eq_append_getElem hlt
        have t2 := List.take_succ_eq_append_getElem hltb
        have hne : ¬ a[k] = b[k] → decide (a = b) = false := fun h => by
          simp only [decide_eq_false_iff_not]
          rintro rfl
          exact h rfl
        cases eA
        cases eB
        clear hlA hlB hca1 hcb1
        generalize a[k] = x1 at *
        generalize b[k] = y1 at *
        have HT1 := Lib.hid t1
        have HT2 := Lib.hid t2
        have HNE := Lib.hid hne
        clear t1 t2 hTk hne
        by_cases hxy : x1 = y1
        · subst hxy
          go_wp2
          go_region
          go_wp2
          go_roundw
          case rel =>
            refine ⟨k + 1, by omega, by go_num, ?_, hB.drew⟩
            unfold Hid
            rw [HT1.out, HT2.out, hT.out]
          case measure => simp [intOf]; omega
        · have hdec := (by rw [strB, decide_eq_false hxy] : (x1.toList == y1.toList) = false)
          have HD := Lib.hid (HNE.out hxy)
          clear hxy
          go_wp2
          go_region
          go_wp2
          go_ret
          exact ⟨by rw [HD.out]; rfl, hB.drew⟩
      · obtain rfl : k = a.length := by omega
        have hd : decide (a = b) = true := by
          have := hT.out
          rw [List.take_length, HLL.out, List.take_length] at this
          simp [this]
        have HD := Lib.hid hd
        clear hd hT
        go_wp2
        go_ret
        exact ⟨by rw [HD.out]; rfl, hB⟩
  · have hlI : ¬ (a.length : Int) = b.length := by omega
    have hd : decide (a = b) = false := by simp; intro e; exact hl (by rw [e])
    rw [hd]
    clear hd
    go_wp2
    go_ret
    exact ⟨rfl, Below.refl _ _⟩

set_option maxHeartbeats 4000000 in
set_option maxRecDepth 100000 in
theorem refIsName_any (s : ByteArray) (w : World) (hs : s.size ≤ 140737488355328) :
    Calls Tryd.prog 31 #[.string s] w fun e w' => e = .returned (.bool (isNameF s)) ∧ Below w.heap.size w w' := by
  by_cases h0 : s.size = 0
  · have hem := emptyT s h0
    have hf : isNameF s = false := by unfold isNameF; rw [decide_eq_false (by omega : ¬ 0 < s.size)]; simp
    have HF := Lib.hid hf
    clear hf h0
    go_enter Tryd.func31, Tryd.ntmps31
    go_wp2
    go_ret
    exact ⟨retB HF.out.symm, Below.refl _ _⟩
  · have hlt : 0 < s.size := by omega
    have hem := emptyF s hlt
    have L0 := fun W => letter_any (s[0]'hlt) W
    have hd := drop_at s 0 hlt
    rw [List.drop_zero] at hd
    have hw : wordN s.data.toList = if isLet (s[0]'hlt) = true then wordT (s.data.toList.drop 1) + 1 else 0 := by
      conv => lhs; rw [hd]
      rfl
    have hw2 : wordT s.data.toList = if (isLet (s[0]'hlt) || isDig (s[0]'hlt)) = true then wordT (s.data.toList.drop 1) + 1 else 0 := by
      conv => lhs; rw [hd]
      rfl
    cases hc : isLet (s[0]'hlt)
    · simp only [hc] at L0 hw
      have hw0 : wordN s.data.toList = 0 := hw
      have hf : isNameF s = false := by
        unfold isNameF
        rw [hw0, decide_eq_false (by omega : ¬ 0 = s.size)]; simp
      have HF := Lib.hid hf
      have HL := Lib.hid L0
      clear hf L0 hw hw2 hd h0
      go_enter Tryd.func31, Tryd.ntmps31
      go_wp2_with fail
      refine (HL.out _).mono ?_
      rintro e w1 ⟨rfl, rfl⟩
      go_wp2
      go_ret
      exact ⟨retB HF.out.symm, Below.refl _ _⟩
    · simp only [hc] at L0 hw
      rw [hc, Bool.true_or] at hw2
      have hww : wordN s.data.toList = wordT s.data.toList := by rw [hw, hw2]; simp
      have R := fun W => refWord_any s W hs
      unfold refWordV at R
      have hf : isNameF s = (!(keysL.contains (s.data.toList.take (wordT s.data.toList))) && decide (wordT s.data.toList = s.size)) := by
        unfold isNameF
        rw [hww, decide_eq_true hlt, Bool.true_and]
        by_cases q : wordT s.data.toList = s.size
        · rw [q, List.take_of_length_le (by simp)]
        · rw [decide_eq_false q, Bool.and_false, Bool.and_false]
      generalize keysL.contains (s.data.toList.take (wordT s.data.toList)) = b at *
      generalize wordT s.data.toList = n at *
      have HF := Lib.hid hf
      have HL := Lib.hid L0
      have HR := Lib.hid R
      clear hf L0 hw hw2 hd h0 R hww
      cases b
      · go_enter Tryd.func31, Tryd.ntmps31
        go_wp2_with fail
        refine (HL.out _).mono ?_
        rintro e w1 ⟨rfl, rfl⟩
        go_wp2_with fail
        refine (HR.out _).mono ?_
        rintro e w2 ⟨rfl, hb2⟩
        have HB2 := Lib.hid hb2
        clear hb2
        go_wp2
        go_ret
        refine ⟨retB ?_, HB2.out⟩
        rw [HF.out]
        by_cases q : n = s.size
        · subst q; simp
        · rw [decide_eq_false q]; simp; omega
      · go_enter Tryd.func31, Tryd.ntmps31
        go_wp2_with fail
        refine (HL.out _).mono ?_
        rintro e w1 ⟨rfl, rfl⟩
        go_wp2_with fail
        refine (HR.out _).mono ?_
        rintro e w2 ⟨rfl, hb2⟩
        have HB2 := Lib.hid hb2
        clear hb2
        go_wp2
        go_ret
        exact ⟨retB (by rw [HF.out]; simp), HB2.out⟩

theorem wakeL_ok : scanOk ⟨#[97, 32, 47, 42, 32, 98, 32, 42, 47, 43, 49]⟩ = true := by decide +kernel
theorem wakeL_toks : tokR true 0 [97, 32, 47, 42, 32, 98, 32, 42, 47, 43, 49] = [⟨1, ⟨#[]⟩, ⟨#[97]⟩, 0⟩, ⟨6, ⟨#[32, 47, 42, 32, 98, 32, 42, 47]⟩, ⟨#[43]⟩, 9⟩, ⟨3, ⟨#[]⟩, ⟨#[49]⟩, 10⟩, ⟨0, ⟨#[]⟩, ⟨#[]⟩, 11⟩] := by kernel_rfl

set_option maxHeartbeats 4000000 in
set_option maxRecDepth 100000 in
theorem awakeL_any (n0 : Nat) (w : World) (hG : LexG n0 w) : Calls Tryd.prog 21 #[] w fun e w' => e = .returned (.bool true) ∧ Below w.heap.size w w' := by
  have S := scan_any n0 ⟨#[97, 32, 47, 42, 32, 98, 32, 42, 47, 43, 49]⟩ w hG
  unfold scanE scanL at S
  rw [if_pos wakeL_ok, if_pos wakeL_ok, show (ByteArray.mk #[97, 32, 47, 42, 32, 98, 32, 42, 47, 43, 49]).data.toList = [97, 32, 47, 42, 32, 98, 32, 42, 47, 43, 49] from rfl, wakeL_toks] at S
  have HS := Lib.hid S
  clear S hG
  go_enter Tryd.func21, Tryd.ntmps21
  go_wp2_with fail
  refine HS.out.mono ?_
  rintro e w1 ⟨v, rfl, hO, hb⟩
  obtain ⟨g, cap, rfl, hgb, hglt⟩ := hO.form (by decide)
  have HB := Lib.hid hb
  obtain ⟨b, off, e2, hB, hc⟩ := Rd.of_own hO (by decide)
  cases e2
  have k1 := hc 5 _ rfl
  have k2 := hc 6 _ rfl
  have k3 := hc 12 _ rfl
  simp only [Nat.zero_add] at k1 k2 k3
  clear hO hb hc
  go_wp2
  go_ret
  exact ⟨rfl, HB.out⟩

end Go.Proofs.YtcbmkkndbeiknaaDoor
