/-  -/
import Derived.Test.YtihnafocjognaaaGreatDoorSort
import Derived.Test.YtihnafocjognaaaGreatDoorEd

namespace Go.Proofs.YtihnafocjognaaaGreatDoor
open Go.RowKit Go.Sort

def rangeOk (n : Nat) (x : Ed) : Prop := 0 ≤ x.f ∧ x.f ≤ x.t ∧ x.t ≤ n
instance (n : Nat) (x : Ed) : Decidable (rangeOk n x) := by unfold rangeOk; exact inferInstance

/-- the error of edits of a text of n bytes -/
def fineF (n : Nat) (l : List Ed) : Int :=
  if 200000 < n ∨ 10000 < l.length then 2 else if ¬ ∀ x ∈ l, rangeOk n x then 1 else if clashGo (ordF l) 0 (-1) = true then 10 else 0

def fineL (n : Nat) (l : List Ed) : List Ed := if fineF n l = 0 then ordF l else []

theorem ret_two {a b : Value} {c d : Value} (h : a = c) (k : b = d) : Ending.returned (.tuple #[a, b]) = .returned (.tuple #[c, d]) := by rw [h, k]

set_option maxHeartbeats 1000000 in
set_option maxRecDepth 100000 in
theorem fineEdits_any (s : ByteArray) (v : Value) (l : List Ed) (w : World) (hs : s.size ≤ 140737488355328) (hl : l.length ≤ 1000000) (h : IsE w v l) :
    Calls Tryz.prog 31 #[.string s, v] w fun e w' => ∃ v', e = .returned (.tuple #[v', .int .i64 (fineF s.size l)]) ∧ IsE w' v' (fineL s.size l) ∧ Below w.heap.size w w' := by
  obtain ⟨A, c, rfl, hA, h1, h2, hE⟩ := h
  by_cases hn : 200000 < s.size ∨ 10000 < l.length
  · have hf : fineF s.size l = 2 := by unfold fineF; rw [if_pos hn]
    have hfl : fineL s.size l = [] := by unfold fineL; rw [hf]; rfl
    rw [hf, hfl]
    clear hf hfl hE hA
    by_cases hn1 : 200000 < s.size
    · go_enter Tryz.func31, Tryz.ntmps31
      go_wp2
      go_ret2
      exact ⟨_, rfl, IsE.nil _, Below.refl _ _⟩
    · have hn2 : 10000 < l.length := by omega
      clear hn
      go_enter Tryz.func31, Tryz.ntmps31
      go_wp2
      go_ret2
      exact ⟨_, rfl, IsE.nil _, Below.refl _ _⟩
  · have hn1 : s.size ≤ 200000 := by omega
    have hn2 : l.length ≤ 10000 := by omega
    have hf : fineF s.size l = if ¬ ∀ x ∈ l, rangeOk s.size x then 1 else if clashGo (ordF l) 0 (-1) = true then 10 else 0 := by unfold fineF; rw [if_neg hn]
    have HF := Lib.hid hf
    have H2 := Lib.hid h2
    clear hf hn h2
    have HA := Lib.hid hA
    clear hA
    go_enter Tryz.func31, Tryz.ntmps31
    go_wp2
    go_loopw [19] (fun i wr => ∃ k : Nat, k ≤ l.length ∧ i = .int .i64 k ∧ Hid (∀ x ∈ l.take k, rangeOk s.size x) ∧ Below w.heap.size w wr) (fun i _ => l.length - (intOf i).toNat)
    case atStart => exact ⟨0, Nat.zero_le _, rfl, (fun x hx => by simp at hx), Below.refl _ _⟩
    case round =>
      obtain ⟨k, hk, rfl, hR, hb⟩ := hrel
      by_cases hlt : k < l.length
      · obtain ⟨b, off, rfl, hB, c0, c1, c2⟩ := (hE.below hb).at_ k hlt
        have hmem : l[k] ∈ l := List.getElem_mem hlt
        have hstep : rangeOk s.size l[k] → ∀ x ∈ l.take (k + 1), rangeOk s.size x := fun hr x hx => by
          rw [List.take_succ_eq_append_getElem hlt, List.mem_append, List.mem_singleton] at hx
          rcases hx with hx | rfl
          · exact hR.out x hx
          · exact hr
        have hbad : ¬ rangeOk s.size l[k] → fineF s.size l = 1 := fun hr => by rw [HF.out, if_pos (fun g => hr (g _ hmem))]
        unfold rangeOk at hstep hbad
        generalize l[k].f = f at *
        generalize l[k].t = t at *
        have HS := Lib.hid hstep
        have HD := Lib.hid hbad
        clear hstep hbad hmem
        clear hE
        by_cases q1 : f < 0
        · go_wp2
          go_ret2
          have e := HD.out (by omega)
          exact ⟨_, ret_two rfl (by rw [e]; rfl), by unfold fineL; rw [e]; exact IsE.nil _, hb.alloc hb.size _⟩
        · by_cases q2 : t < f
          · go_wp2
            go_ret2
            have e := HD.out (by omega)
            exact ⟨_, ret_two rfl (by rw [e]; rfl), by unfold fineL; rw [e]; exact IsE.nil _, hb.alloc hb.size _⟩
          · by_cases q3 : (s.size : Int) < t
            · go_wp2
              go_ret2
              have e := HD.out (by omega)
              exact ⟨_, ret_two rfl (by rw [e]; rfl), by unfold fineL; rw [e]; exact IsE.nil _, hb.alloc hb.size _⟩
            · go_wp2
              go_roundw
              case rel => exact ⟨k + 1, by omega, by go_num, HS.out ⟨by omega, by omega, by omega⟩, hb.alloc hb.size _⟩
              case measure => simp [intOf]; omega
      · have hkl : k = l.length := by omega
        have hall : ∀ x ∈ l, rangeOk s.size x := by have := hR.out; rwa [hkl, List.take_length] at this
        have hf := HF.out
        rw [if_neg (fun g => g hall)] at hf
        have HF2 := Lib.hid hf
        have hE2 := hE.below hb
        have ho := Lib.hid (ordered_any (.slice A l.length c) l wr hl ⟨A, c, rfl, HA.out, h1, H2.out, (hE.below hb).more hb.size⟩)
        clear hf hall hkl hR HF hE hE2
        go_wp2_with (go_at_call 46; refine ho.out.mono ?_; rintro e w2 ⟨v', rfl, hI, hb2⟩)
        obtain ⟨A2, c2, rfl, hA2, g1, g2, hE2⟩ := hI
        have hlo := length_ordF l
        have hc := clash_any A2 c2 (ordF l) w2 (by omega) hE2
        have HB := Lib.hid (hb.trans (hb2.mono hb.size))
        have HI := Lib.hid (⟨A2, c2, rfl, hA2, g1, g2, hE2⟩ : IsE w2 (.slice A2 (ordF l).length c2) (ordF l))
        clear ho hb hb2 hE2 hA2 g2
        cases hcb : clashGo (ordF l) 0 (-1)
        · rw [hcb] at hc
          have hc := Lib.hid hc
          have e := HF2.out
          rw [hcb] at e
          have e : fineF s.size l = 0 := by rw [e]; rfl
          have E := Lib.hid e
          clear e HF2 hcb
          go_wp2_with (go_at_call 47; refine hc.out.mono ?_; rintro e w3 ⟨rfl, hb3⟩)
          go_ret2
          exact ⟨_, ret_two rfl (by rw [E.out]; rfl), by unfold fineL; rw [E.out]; exact (show IsE w2 _ _ from HI.out).below hb3, HB.out.trans (hb3.mono HB.out.size)⟩
        · rw [hcb] at hc
          have hc := Lib.hid hc
          have e := HF2.out
          rw [hcb] at e
          have e : fineF s.size l = 10 := by rw [e]; rfl
          have E := Lib.hid e
          clear e HF2 hcb
          go_wp2_with (go_at_call 47; refine hc.out.mono ?_; rintro e w3 ⟨rfl, hb3⟩)
          go_ret2
          exact ⟨_, ret_two rfl (by rw [E.out]; rfl), by unfold fineL; rw [E.out]; exact IsE.nil _, HB.out.trans (hb3.mono HB.out.size)⟩

end Go.Proofs.YtihnafocjognaaaGreatDoor

namespace Go.Proofs.YtihnafocjognaaaGreatDoor
open Go.RowKit Go.Sort

/-- how many bytes edits make a text longer -/
def gsum : List Ed → Int
  | [] => 0
  | x :: l => (x.s.size - (x.t - x.f)) + gsum l

theorem gsum_take (l : List Ed) (k : Nat) (h : k < l.length) : gsum (l.take (k + 1)) = gsum (l.take k) + (l[k].s.size - (l[k].t - l[k].f)) := by
  induction l generalizing k with
  | nil => simp at h
  | cons x l ih =>
    cases k with
    | zero => simp [gsum]
    | succ k =>
      have := ih k (by simpa using h)
      simp only [List.take_succ_cons, gsum, List.getElem_cons_succ]
      omega

/-- texts of edits that are not too long -/
def SmallT (l : List Ed) : Prop := ∀ x ∈ l, x.s.size ≤ 1100000

theorem SmallT.ord {l : List Ed} (h : SmallT l) : SmallT (ordF l) := fun x hx => h x ((mem_ordF x l).1 hx)

theorem fineF_range {n : Nat} {l : List Ed} (h : fineF n l = 0) : n ≤ 200000 ∧ l.length ≤ 10000 ∧ (∀ x ∈ l, rangeOk n x) ∧ clashGo (ordF l) 0 (-1) = false := by
  unfold fineF at h
  by_cases h1 : 200000 < n ∨ 10000 < l.length
  · rw [if_pos h1] at h; omega
  · rw [if_neg h1] at h
    by_cases h2 : ¬ ∀ x ∈ l, rangeOk n x
    · rw [if_pos h2] at h; omega
    · rw [if_neg h2] at h
      by_cases h3 : clashGo (ordF l) 0 (-1) = true
      · rw [if_pos h3] at h; omega
      · exact ⟨by omega, by omega, Classical.not_not.1 h2, by simpa using h3⟩

theorem gsum_bound (n : Nat) (hn : n ≤ 200000) : ∀ l : List Ed, SmallT l → (∀ x ∈ l, rangeOk n x) → - (l.length * 200000 : Int) ≤ gsum l ∧ gsum l ≤ l.length * 1100000
  | [], _, _ => by simp [gsum]
  | x :: l, hs, hr => by
    have ih := gsum_bound n hn l (fun y hy => hs y (by simp [hy])) (fun y hy => hr y (by simp [hy]))
    have h1 := hs x (by simp)
    have h2 := hr x (by simp)
    unfold rangeOk at h2
    simp only [gsum, List.length_cons]
    omega

/-- the error of making edits -/
def applF (n : Nat) (l : List Ed) : Int := if fineF n l ≠ 0 then fineF n l else if 200000 < n + gsum (ordF l) then 2 else 0
def applL (n : Nat) (l : List Ed) : List Ed := if applF n l = 0 then ordF l else []

set_option maxHeartbeats 1000000 in
set_option maxRecDepth 100000 in
theorem applicable_any (s : ByteArray) (v : Value) (l : List Ed) (w : World) (hs : s.size ≤ 140737488355328) (hl : l.length ≤ 1000000) (hT : SmallT l) (h : IsE w v l) :
    Calls Tryz.prog 16 #[.string s, v] w fun e w' => ∃ v', e = .returned (.tuple #[v', .int .i64 (applF s.size l)]) ∧ IsE w' v' (applL s.size l) ∧ Below w.heap.size w w' := by
  have hf := fineEdits_any s v l w hs hl h
  by_cases h0 : fineF s.size l = 0
  · obtain ⟨r1, r2, r3, r4⟩ := fineF_range h0
    have r3' : ∀ x ∈ ordF l, rangeOk s.size x := fun x hx => r3 x ((mem_ordF x l).1 hx)
    have hT' := hT.ord
    have hlo := length_ordF l
    have hlo2 : (ordF l).length ≤ 10000 := by omega
    have ha : applF s.size l = if 200000 < s.size + gsum (ordF l) then 2 else 0 := by unfold applF; rw [if_neg (fun g => g h0)]
    rw [h0, show fineL s.size l = ordF l by unfold fineL; rw [if_pos h0]] at hf
    have HA := Lib.hid ha
    have HF := Lib.hid hf
    have HR := Lib.hid r3'
    have HT := Lib.hid hT'
    clear hf h h0 r3 r3' r4 hT hT' ha
    go_enter Tryz.func16, Tryz.ntmps16
    go_wp2_with (go_at_call 31; refine HF.out.mono ?_; rintro e w1 ⟨v', rfl, ⟨A, c, rfl, hA, g1, g2, hE⟩, hb1⟩)
    have HI := Lib.hid (⟨A, c, rfl, hA, g1, g2, hE⟩ : IsE w1 (.slice A (ordF l).length c) (ordF l))
    clear hA g2 HF
    go_wp2
    go_loopw [8, 24] (fun z i wr => ∃ k : Nat, k ≤ (ordF l).length ∧ i = .int .i64 k ∧ z = .int .i64 (s.size + gsum ((ordF l).take k)) ∧ Below w1.heap.size w1 wr) (fun _ i _ => (ordF l).length - (intOf i).toNat)
    case atStart => exact ⟨0, Nat.zero_le _, rfl, by simp [gsum], Below.refl _ _⟩
    case round =>
      obtain ⟨k, hk, rfl, rfl, hb⟩ := hrel
      have hbd := gsum_bound s.size r1 ((ordF l).take k) (fun x hx => HT.out x (List.mem_of_mem_take hx)) (fun x hx => HR.out x (List.mem_of_mem_take hx))
      have htk : ((ordF l).take k).length ≤ 10000 := by rw [List.length_take]; omega
      have hb3 : -2000000000 ≤ gsum ((ordF l).take k) ∧ gsum ((ordF l).take k) ≤ 20000000000 := by omega
      clear hbd htk
      by_cases hlt : k < (ordF l).length
      · obtain ⟨b, off, rfl, hB, c0, c1, c2⟩ := (hE.below hb).at_ k hlt
        have hmem : (ordF l)[k] ∈ ordF l := List.getElem_mem hlt
        have q1 := HR.out _ hmem
        have q2 := HT.out _ hmem
        unfold rangeOk at q1
        obtain ⟨q3, q4, q5⟩ := q1
        have hst := gsum_take (ordF l) k hlt
        generalize (ordF l)[k].f = f at *
        generalize (ordF l)[k].t = t at *
        generalize (ordF l)[k].s = x at *
        generalize gsum ((ordF l).take k) = G at *
        have HS := Lib.hid hst
        have hg := fun W => Lib.hid (growth_any f t x W (by omega) q3 q4 (by omega))
        clear hE hst
        have HG := Lib.hid hg
        clear hg
        go_wp2_with (go_at_call 32; refine (HG.out _).out.mono ?_; rintro e w3 ⟨rfl, hb4⟩)
        go_roundw
        case rel => exact ⟨k + 1, by omega, by go_num, by rw [HS.out]; go_num, (hb.alloc hb.size _).trans (hb4.mono (by have := hb.size; simp; omega))⟩
        case measure => simp [intOf]; omega
      · have hkl : k = (ordF l).length := by omega
        rw [hkl, List.take_length] at *
        generalize gsum (ordF l) = G at *
        have HB := Lib.hid (hb1.trans (hb.mono hb1.size))
        have HI2 := Lib.hid (IsE.below HI.out hb)
        clear hb hE HI HR HT hb1 hlt hk hkl
        by_cases hG : 200000 < (s.size : Int) + G
        · go_wp2
          go_ret2
          have e : applF s.size l = 2 := by rw [HA.out, if_pos (by omega)]
          exact ⟨_, ret_two rfl (by rw [e]; rfl), by unfold applL; rw [e]; exact IsE.nil _, HB.out⟩
        · go_wp2
          go_ret2
          have e : applF s.size l = 0 := by rw [HA.out, if_neg (by omega)]
          exact ⟨_, ret_two rfl (by rw [e]; rfl), by unfold applL; rw [e]; exact HI2.out, HB.out⟩
  · have ha : applF s.size l = fineF s.size l := by unfold applF; rw [if_pos h0]
    have hal : applL s.size l = [] := by unfold applL; rw [ha, if_neg h0]
    have hfl : fineL s.size l = [] := by unfold fineL; rw [if_neg h0]
    rw [ha, hal]
    rw [hfl] at hf
    generalize fineF s.size l = E at *
    have HF := Lib.hid hf
    have hne : (E != 0) = true := by simp [h0]
    clear hf h hT ha hal hfl
    go_enter Tryz.func16, Tryz.ntmps16
    go_wp2_with (go_at_call 31; refine HF.out.mono ?_; rintro e w1 ⟨v', rfl, hI, hb1⟩)
    go_ret2
    exact ⟨_, rfl, IsE.nil _, hb1⟩

end Go.Proofs.YtihnafocjognaaaGreatDoor
