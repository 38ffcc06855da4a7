/- Diff: the text of the difference of two texts. -/
import Derived.Test.YtcbmkkndbeiknaaGreatDoorComp
import Derived.Test.YtcbmkkndbeiknaaGreatDoorGather
import Derived.Test.YtcbmkkndbeiknaaGreatDoorLin
import Derived.Test.YtcbmkkndbeiknaaGreatDoorSide
namespace Go.Proofs.YtcbmkkndbeiknaaGreatDoor
open Go.RowKit Go.Maps

theorem mem_flat_le : ∀ (L : List (List UInt8)) (l : List UInt8), l ∈ L → l.length ≤ L.flatten.length
  | [], l, h => by simp at h
  | x :: L, l, h => by
    rw [List.flatten_cons, List.length_append]
    rcases List.mem_cons.1 h with rfl | h
    · omega
    · have := mem_flat_le L l h; omega

theorem linesB_small (s : ByteArray) : ∀ x ∈ linesB s, x.size ≤ s.size := by
  intro x hx
  obtain ⟨l, hl, rfl⟩ := List.mem_map.1 hx
  have := mem_flat_le _ _ hl
  rw [linesL_flat] at this
  have e1 : (ofL l).size = l.length := by simp [ofL, ByteArray.size]
  have e2 : s.data.toList.length = s.size := by simp
  omega

theorem cmpL_mem : ∀ (a b : List ByteArray) (t : St), t ∈ cmpL a b → t.x ∈ a ∨ t.x ∈ b
  | [], [], t, h => by rw [cmpL] at h; simp at h
  | [], y :: b, t, h => by
    rw [cmpL] at h
    rcases List.mem_cons.1 h with rfl | h
    · simp
    · rcases cmpL_mem [] b t h with g | g
      · simp at g
      · exact .inr (List.mem_cons_of_mem _ g)
  | x :: a, [], t, h => by
    rw [cmpL] at h
    rcases List.mem_cons.1 h with rfl | h
    · simp
    · rcases cmpL_mem a [] t h with g | g
      · exact .inl (List.mem_cons_of_mem _ g)
      · simp at g
  | x :: a, y :: b, t, h => by
    rw [cmpL] at h
    split at h
    · rcases List.mem_cons.1 h with rfl | h
      · simp
      · rcases cmpL_mem a b t h with g | g
        · exact .inl (List.mem_cons_of_mem _ g)
        · exact .inr (List.mem_cons_of_mem _ g)
    · split at h
      · rcases List.mem_cons.1 h with rfl | h
        · simp
        · rcases cmpL_mem a (y :: b) t h with g | g
          · exact .inl (List.mem_cons_of_mem _ g)
          · exact .inr g
      · rcases List.mem_cons.1 h with rfl | h
        · simp
        · rcases cmpL_mem (x :: a) b t h with g | g
          · exact .inl g
          · exact .inr (List.mem_cons_of_mem _ g)
termination_by a b => a.length + b.length

theorem gatherGo_length (l : List St) (ctx : Nat) : ∀ f first, (gatherGo l ctx f first).length ≤ f
  | 0, _ => by simp [gatherGo]
  | f + 1, first => by
    rw [gatherGo]
    split
    · have := gatherGo_length l ctx f (stretch l ctx l.length (first + 1)).2
      simp only [List.length_cons]; omega
    · simp

theorem gatherF_length (l : List St) (ctx : Nat) : (gatherF l ctx).length ≤ l.length + 1 := by
  unfold gatherF gatherP
  rw [List.length_map]
  exact gatherGo_length _ _ _ _

theorem gatherF_small (l : List St) (ctx : Nat) (hl : l.length ≤ 100000) (hx : ∀ t ∈ l, t.x.size ≤ 8000000) : SmallH (gatherF l ctx) := by
  intro h hh
  obtain ⟨p, _, rfl⟩ := List.mem_map.1 hh
  have h1 := sideA_le (l.take p.1)
  have h2 := sideB_le (l.take p.1)
  have h3 : (l.take p.1).length ≤ l.length := by rw [List.length_take]; omega
  refine ⟨by simp only [toHk]; omega, by simp only [toHk]; omega, by simp only [toHk, List.length_drop, List.length_take]; omega, fun t ht => hx t ?_⟩
  simp only [toHk] at ht
  exact List.mem_of_mem_take (List.mem_of_mem_drop ht)

/-- the text of a difference -/
def diffL (a b : ByteArray) (ctx : Nat) : List UInt8 := hunksF (gatherF (cmpL (linesB a) (linesB b)) ctx)
/-- .. or its error -/
def diffE (a b : ByteArray) (ctx : Int) : Nat := if (limF a && limF b) = true then (if 0 ≤ ctx ∧ ctx ≤ 20 then 0 else 1) else 2

theorem limF_lines {s : ByteArray} (h : limF s = true) : (linesB s).length ≤ 2000 := by
  unfold limF at h
  simp at h
  exact h.2

theorem strs_of_own {w : World} {base n : Nat} {v : Value} {l : List ByteArray} (hn : n = l.length) (h : w.ownsRow base 9 1 v n (l.map Value.string)) : ∃ A' c', v = .slice A' l.length c' ∧ l.length ≤ c' ∧ c' ≤ maxLen ∧ Rd w w.heap.size A' (l.map Value.string) := by
  subst hn
  rcases h.2 with ⟨e, e0⟩ | ⟨g, cap, cur, e, hb, hg, hn, hc, hs, ht⟩
  · have : l = [] := List.eq_nil_of_length_eq_zero e0
    subst this
    exact ⟨none, 0, e, Nat.le_refl _, by unfold maxLen; omega, fun hl => by simp at hl⟩
  · refine ⟨some ⟨g, 0, none⟩, cap, e, hn, hc, fun hl => ?_⟩
    obtain ⟨b, off, e2, h2, h3⟩ := Rd.of_own (A := some ⟨g, 0, none⟩) (c := cap) (by rw [← e]; exact h) hl
    exact ⟨b, off, e2, h2, h3⟩

set_option maxHeartbeats 2000000 in
set_option maxRecDepth 100000 in
theorem diff_any (a b : ByteArray) (ctx : Int) (w : World) (ha : a.size ≤ 8000000) (hb : b.size ≤ 8000000) (ht : Tab w) (hL : (diffL a b ctx.toNat).length ≤ 100000000) :
    Calls Tryz.prog 15 #[.string a, .string b, .int .i64 ctx] w fun e w' => e = .returned (.tuple #[.string (if diffE a b ctx = 0 then ofL (diffL a b ctx.toNat) else ⟨#[]⟩), .int .i64 (diffE a b ctx)]) ∧ Below w.heap.size w w' := by
  have hlim := withinLimits_any a b w ha hb
  by_cases q : (limF a && limF b) = true
  · have hq2 : limF a = true ∧ limF b = true := by simpa using q
    have la := limF_lines hq2.1
    have lb := limF_lines hq2.2
    unfold diffE
    rw [if_pos q]
    rw [q] at hlim
    have HLIM := Lib.hid hlim
    clear hlim q hq2
    by_cases hc : 0 ≤ ctx ∧ ctx ≤ 20
    · rw [if_pos hc]
      obtain ⟨c1, c2⟩ := hc
      obtain ⟨n, rfl⟩ : ∃ n : Nat, ctx = n := ⟨ctx.toNat, by omega⟩
      simp only [Int.toNat_natCast, ite_true] at hL ⊢
      have hmemA := linesB_small a
      have hmemB := linesB_small b
      have hxa : ∀ x ∈ linesB a, x.size ≤ 8000000 := fun x hx => by have := hmemA x hx; omega
      have hxb : ∀ x ∈ linesB b, x.size ≤ 8000000 := fun x hx => by have := hmemB x hx; omega
      have hcl := cmpL_length (linesB a) (linesB b)
      have hcm := cmpL_mem (linesB a) (linesB b)
      have hcx : ∀ t ∈ cmpL (linesB a) (linesB b), t.x.size ≤ 8000000 := fun t ht => by
        rcases hcm t ht with g | g
        · exact hxa _ g
        · exact hxb _ g
      have hgl := gatherF_length (cmpL (linesB a) (linesB b)) n
      have hgs := gatherF_small (cmpL (linesB a) (linesB b)) n (by omega) hcx
      have HL := Lib.hid hL
      unfold diffL at HL ⊢
      have HXA := Lib.hid hxa
      have HXB := Lib.hid hxb
      have HGS := Lib.hid hgs
      have HTAB := Lib.hid ht
      clear hL hmemA hmemB hxa hxb hcm hcx hgs ht
      have hl1 := fun W => lines_any a ha W
      have hl2 := fun W => lines_any b hb W
      have HL1 := Lib.hid hl1
      have HL2 := Lib.hid hl2
      clear hl1 hl2
      go_enter Tryz.func15, Tryz.ntmps15
      go_wp2_with (go_at_call 35; refine HLIM.out.mono ?_; rintro e w1 ⟨rfl, hb1⟩)
      have hb1' := Lib.hid hb1
      clear hb1
      refine (HL1.out _).mono ?_
      rintro e w2 ⟨v2, rfl, hO2, hb2⟩
      obtain ⟨A2, c2, rfl, k1, k2, hR2⟩ := strs_of_own rfl hO2
      have H2 := Lib.hid (hb1'.out.trans (hb2.mono hb1'.out.size))
      have R2 := Lib.hid hR2
      clear hO2 hR2 hb2 hb1'
      go_wp2_with fail
      refine (HL2.out _).mono ?_
      rintro e w3 ⟨v3, rfl, hO3, hb3⟩
      obtain ⟨A3, c3, rfl, k3, k4, hR3⟩ := strs_of_own rfl hO3
      have H3 := Lib.hid (H2.out.trans (hb3.mono H2.out.size))
      have hcmp := compare_any A2 A3 c2 c3 (linesB a) (linesB b) w3 la lb HXA.out HXB.out k1 k2 k3 k4 ((R2.out.below hb3).more hb3.size) hR3
      have HC := Lib.hid hcmp
      clear hO3 hR3 hb3 H2 R2 hcmp
      go_wp2_with fail
      refine HC.out.mono ?_
      rintro e w4 ⟨A4, c4, rfl, k5, k6, hS4, hb4⟩
      have H4 := Lib.hid (H3.out.trans (hb4.mono H3.out.size))
      have hga := gather_any A4 c4 (cmpL (linesB a) (linesB b)) n w4 (by omega) k5 k6 (by omega) hS4
      have HG := Lib.hid hga
      clear hS4 hb4 HC H3 hga
      go_wp2_with fail
      refine HG.out.mono ?_
      rintro e w5 ⟨A5, c5, rfl, hH5, hb5⟩
      have H5 := Lib.hid (H4.out.trans (hb5.mono H4.out.size))
      have hwr := writeHunks_any A5 c5 (gatherF (cmpL (linesB a) (linesB b)) n) w5 (by omega) HGS.out HL.out hH5 (HTAB.out.below H5.out)
      have HW := Lib.hid hwr
      clear hH5 hb5 HG H4 hwr
      go_wp2_with fail
      refine HW.out.mono ?_
      rintro e w6 ⟨rfl, hb6⟩
      have H6 := Lib.hid (H5.out.trans (hb6.mono H5.out.size))
      clear hb6 H5 HW
      go_wp2
      go_ret2
      exact ⟨rfl, H6.out⟩
    · rw [if_neg hc]
      go_enter Tryz.func15, Tryz.ntmps15
      by_cases q1 : ctx < 0
      · clear hc
        go_wp2_with (go_at_call 35; refine HLIM.out.mono ?_; rintro e w1 ⟨rfl, hb1⟩)
        go_ret2
        exact ⟨rfl, hb1⟩
      · have q2 : 20 < ctx := by omega
        clear hc
        go_wp2_with (go_at_call 35; refine HLIM.out.mono ?_; rintro e w1 ⟨rfl, hb1⟩)
        go_ret2
        exact ⟨rfl, hb1⟩
  · have q' : (limF a && limF b) = false := by simpa using q
    unfold diffE
    rw [if_neg q]
    rw [q'] at hlim
    have HLIM := Lib.hid hlim
    clear hlim q q'
    go_enter Tryz.func15, Tryz.ntmps15
    go_wp2_with (go_at_call 35; refine HLIM.out.mono ?_; rintro e w1 ⟨rfl, hb1⟩)
    go_ret2
    exact ⟨rfl, hb1⟩

end Go.Proofs.YtcbmkkndbeiknaaGreatDoor
