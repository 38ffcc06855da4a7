import Derived.Test.YtgpmodbndngcoaaDoorOrdered
import Derived.Test.YtgpmodbndngcoaaDoorClash
namespace Go.Proofs.YtgpmodbndngcoaaDoor
open Go.RowKit Go.Sort

def rangeOk (n : Nat) (x : Ed) : Prop := 0 ≤ x.f ∧ x.f ≤ x.t ∧ x.t ≤ n
instance (n : Nat) (x : Ed) : Decidable (rangeOk n x) := by unfold rangeOk; exact inferInstance

/-- the error of edits of a text of n bytes -/
def fineF (n : Nat) (l : List Ed) : Int :=
  if 200000 < n ∨ 10000 < l.length then 2 else if ¬ ∀ x ∈ l, rangeOk n x then 1 else if clashGo (ordF l) 0 (-1) = true then 10 else 0

def fineL (n : Nat) (l : List Ed) : List Ed := if fineF n l = 0 then ordF l else []

theorem ret_two {a b : Value} {c d : Value} (h : a = c) (k : b = d) : Ending.returned (.tuple #[a, b]) = .returned (.tuple #[c, d]) := by rw [h, k]

set_option maxHeartbeats 1000000 in
set_option maxRecDepth 100000 in
theorem fineEdits_any (s : ByteArray) (v : Value) (l : List Ed) (w : World) (hs : s.size ≤ 140737488355328) (hl : l.length ≤ 1000000) (h : IsE w v l) :
    Calls Tryd.prog 59 #[.string s, v] w fun e w' => ∃ v', e = .returned (.tuple #[v', .int .i64 (fineF s.size l)]) ∧ IsE w' v' (fineL s.size l) ∧ Below w.heap.size w w' := by
  obtain ⟨A, c, rfl, hA, h1, h2, hE⟩ := h
  by_cases hn : 200000 < s.size ∨ 10000 < l.length
  · have hf : fineF s.size l = 2 := by unfold fineF; rw [if_pos hn]
    have hfl : fineL s.size l = [] := by unfold fineL; rw [hf]; rfl
    rw [hf, hfl]
    clear hf hfl hE hA
    by_cases hn1 : 200000 < s.size
    · go_enter Tryd.func59, Tryd.ntmps59
      go_wp2
      go_ret2
      exact ⟨_, rfl, IsE.nil _, Below.refl _ _⟩
    · have hn2 : 10000 < l.length := by omega
      clear hn
      go_enter Tryd.func59, Tryd.ntmps59
      go_wp2
      go_ret2
      exact ⟨_, rfl, IsE.nil _, Below.refl _ _⟩
  · have hn1 : s.size ≤ 200000 := by omega
    have hn2 : l.length ≤ 10000 := by omega
    have hf : fineF s.size l = if ¬ ∀ x ∈ l, rangeOk s.size x then 1 else if clashGo (ordF l) 0 (-1) = true then 10 else 0 := by unfold fineF; rw [if_neg hn]
    have HF := Lib.hid hf
    have H2 := Lib.hid h2
    clear hf hn h2
    have HA := Lib.hid hA
    clear hA
    go_enter Tryd.func59, Tryd.ntmps59
    go_wp2
    go_loopw [19] (fun i wr => ∃ k : Nat, k ≤ l.length ∧ i = .int .i64 k ∧ Hid (∀ x ∈ l.take k, rangeOk s.size x) ∧ Below w.heap.size w wr) (fun i _ => l.length - (intOf i).toNat)
    case atStart => exact ⟨0, Nat.zero_le _, rfl, (fun x hx => by simp at hx), Below.refl _ _⟩
    case round =>
      obtain ⟨k, hk, rfl, hR, hb⟩ := hrel
      by_cases hlt : k < l.length
      · obtain ⟨b, off, rfl, hB, c0, c1, c2⟩ := (hE.below hb).at_ k hlt
        have hmem : l[k] ∈ l := List.getElem_mem hlt
        have hstep : rangeOk s.size l[k] → ∀ x ∈ l.take (k + 1), rangeOk s.size x := fun hr x hx => by
          rw [List.take_succ_eq_append_getElem hlt, List.mem_append, List.mem_singleton] at hx
          rcases hx with hx | rfl
          · exact hR.out x hx
          · exact hr
        have hbad : ¬ rangeOk s.size l[k] → fineF s.size l = 1 := fun hr => by rw [HF.out, if_pos (fun g => hr (g _ hmem))]
        unfold rangeOk at hstep hbad
        generalize l[k].f = f at *
        generalize l[k].t = t at *
        have HS := Lib.hid hstep
        have HD := Lib.hid hbad
        clear hstep hbad hmem
        clear hE
        by_cases q1 : f < 0
        · go_wp2
          go_ret2
          have e := HD.out (by omega)
          exact ⟨_, ret_two rfl (by rw [e]; rfl), by unfold fineL; rw [e]; exact IsE.nil _, hb.alloc hb.size _⟩
        · by_cases q2 : t < f
          · go_wp2
            go_ret2
            have e := HD.out (by omega)
            exact ⟨_, ret_two rfl (by rw [e]; rfl), by unfold fineL; rw [e]; exact IsE.nil _, hb.alloc hb.size _⟩
          · by_cases q3 : (s.size : Int) < t
            · go_wp2
              go_ret2
              have e := HD.out (by omega)
              exact ⟨_, ret_two rfl (by rw [e]; rfl), by unfold fineL; rw [e]; exact IsE.nil _, hb.alloc hb.size _⟩
            · go_wp2
              go_roundw
              case rel => exact ⟨k + 1, by omega, by go_num, HS.out ⟨by omega, by omega, by omega⟩, hb.alloc hb.size _⟩
              case measure => simp [intOf]; omega
      · have hkl : k = l.length := by omega
        have hall : ∀ x ∈ l, rangeOk s.size x := by have := hR.out; rwa [hkl, List.take_length] at this
        have hf := HF.out
        rw [if_neg (fun g => g hall)] at hf
        have HF2 := Lib.hid hf
        have hE2 := hE.below hb
        have ho := Lib.hid (ordered_any (.slice A l.length c) l wr hl ⟨A, c, rfl, HA.out, h1, H2.out, (hE.below hb).more hb.size⟩)
        clear hf hall hkl hR HF hE hE2
        go_wp2_with (go_at_call 67; refine ho.out.mono ?_; rintro e w2 ⟨v', rfl, hI, hb2⟩)
        obtain ⟨A2, c2, rfl, hA2, g1, g2, hE2⟩ := hI
        have hlo := length_ordF l
        have hc := clash_any A2 c2 (ordF l) w2 (by omega) hE2
        have HB := Lib.hid (hb.trans (hb2.mono hb.size))
        have HI := Lib.hid (⟨A2, c2, rfl, hA2, g1, g2, hE2⟩ : IsE w2 (.slice A2 (ordF l).length c2) (ordF l))
        clear ho hb hb2 hE2 hA2 g2
        cases hcb : clashGo (ordF l) 0 (-1)
        · rw [hcb] at hc
          have hc := Lib.hid hc
          have e := HF2.out
          rw [hcb] at e
          have e : fineF s.size l = 0 := by rw [e]; rfl
          have E := Lib.hid e
          clear e HF2 hcb
          go_wp2_with (go_at_call 92; refine hc.out.mono ?_; rintro e w3 ⟨rfl, hb3⟩)
          go_ret2
          exact ⟨_, ret_two rfl (by rw [E.out]; rfl), by unfold fineL; rw [E.out]; exact (show IsE w2 _ _ from HI.out).below hb3, HB.out.trans (hb3.mono HB.out.size)⟩
        · rw [hcb] at hc
          have hc := Lib.hid hc
          have e := HF2.out
          rw [hcb] at e
          have e : fineF s.size l = 10 := by rw [e]; rfl
          have E := Lib.hid e
          clear e HF2 hcb
          go_wp2_with (go_at_call 92; refine hc.out.mono ?_; rintro e w3 ⟨rfl, hb3⟩)
          go_ret2
          exact ⟨_, ret_two rfl (by rw [E.out]; rfl), by unfold fineL; rw [E.out]; exact IsE.nil _, HB.out.trans (hb3.mono HB.out.size)⟩

end Go.Proofs.YtgpmodbndngcoaaDoor
