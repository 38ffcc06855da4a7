/- The document's Fine. -/
import Derived.Test.YtgpmodbndngcoaaDoorTouch
import Derived.Test.YtgpmodbndngcoaaDoorCompact
import Derived.Deep.RegionHeld3
namespace Go.Proofs.YtgpmodbndngcoaaDoor
open Go.RowKit Go.Maps

theorem below_cells {w w' : World} (h : Below w.heap.size w w') {p : Addr} {v : Value} (hc : w.cell? p = some v) : w'.cell? p = some v := by
  refine (h.cell (p := p) ?_).trans hc
  rcases Nat.lt_or_ge p.block w.heap.size with g | g
  · exact g
  · unfold World.cell? at hc
    rw [Array.getElem?_eq_none g] at hc
    cases hc

set_option maxHeartbeats 2000000 in
set_option maxRecDepth 100000 in
theorem refFine_any (s : ByteArray) (v : Value) (l : List Ed) (w : World) (hs : s.size ≤ 140737488355328) (hl : l.length ≤ 1000000) (h : IsE w v l) :
    Calls Tryd.prog 22 #[.string s, v] w fun e w' => e = .returned (.int .i64 (fineF s.size l)) ∧ Below w.heap.size w w' := by
  obtain ⟨A, c, rfl, hA, h1, h2, hE⟩ := h
  by_cases hn : 200000 < s.size ∨ 10000 < l.length
  · have hf : fineF s.size l = 2 := by unfold fineF; rw [if_pos hn]
    rw [hf]
    clear hf hE hA
    by_cases hn1 : 200000 < s.size
    · go_enter Tryd.func22, Tryd.ntmps22
      go_wp2
      go_ret
      exact ⟨rfl, Below.refl _ _⟩
    · have hn2 : 10000 < l.length := by omega
      go_enter Tryd.func22, Tryd.ntmps22
      go_wp2
      go_ret
      exact ⟨rfl, Below.refl _ _⟩
  · have hn1 : s.size ≤ 200000 := by omega
    have hn2 : l.length ≤ 10000 := by omega
    have HF := Lib.hid (show fineF s.size l = if ¬ ∀ x ∈ l, rangeOk s.size x then 1 else if clashGo (ordF l) 0 (-1) = true then 10 else 0 by unfold fineF; rw [if_neg hn])
    have HE := Lib.hid hE
    clear hn hE hA h1 h2
    go_enter Tryd.func22, Tryd.ntmps22
    go_wp2
    go_loopw [5] (fun i wr => ∃ k : Nat, k ≤ l.length ∧ i = .int .i64 k ∧ Hid (∀ x ∈ l.take k, rangeOk s.size x) ∧ Below w.heap.size w wr) (fun i _ => l.length - (intOf i).toNat)
    case atStart => exact ⟨0, Nat.zero_le _, rfl, (fun x hx => by simp at hx), Below.refl _ _⟩
    case round =>
      obtain ⟨k, hk, rfl, hR, hb⟩ := hrel
      by_cases hlt : k < l.length
      · obtain ⟨b, off, rfl, hB, c0, c1, c2⟩ := (HE.out.below hb).at_ k hlt
        have hmem : l[k] ∈ l := List.getElem_mem hlt
        have hstep : rangeOk s.size l[k] → ∀ x ∈ l.take (k + 1), rangeOk s.size x := fun hr x hx => by
          rw [List.take_succ_eq_append_getElem hlt, List.mem_append, List.mem_singleton] at hx
          rcases hx with hx | rfl
          · exact hR.out x hx
          · exact hr
        have hbad : ¬ rangeOk s.size l[k] → fineF s.size l = 1 := fun hr => by rw [HF.out, if_pos (fun g => hr (g _ hmem))]
        unfold rangeOk at hstep hbad
        generalize l[k].f = f at *
        generalize l[k].t = t at *
        generalize l[k].s = r at *
        have HS := Lib.hid hstep
        have HD := Lib.hid hbad
        clear hstep hbad hmem
        by_cases q1 : f < 0
        · go_wp2
          go_region
          go_wp2
          go_ret
          have e := HD.out (by omega)
          exact ⟨ret_int e.symm, hb.drew⟩
        · have d1 : decide (f < 0) = false := by simp; omega
          have e1 : 0 ≤ f := by omega
          by_cases q3 : (s.size : Int) < t
          · have d3 : decide ((s.size : Int) < t) = true := by simp; omega
            go_wp2
            go_region
            go_wp2
            go_ret
            have e := HD.out (by omega)
            exact ⟨ret_int e.symm, hb.drew⟩
          · have d3 : decide ((s.size : Int) < t) = false := by simp; omega
            have e3 : t ≤ (s.size : Int) := by omega
            by_cases q2 : t < f
            · have d2 : decide (t < f) = true := by simp; omega
              go_wp2
              go_region
              go_wp2
              go_ret
              have e := HD.out (by omega)
              exact ⟨ret_int e.symm, hb.drew⟩
            · have d2 : decide (t < f) = false := by simp; omega
              have e2 : f ≤ t := by omega
              go_wp2
              go_region
              go_wp2
              go_roundw
              case rel => exact ⟨k + 1, by omega, by go_num, HS.out ⟨by omega, by omega, by omega⟩, hb.drew⟩
              case measure => simp [intOf]; omega
      · have hkl : k = l.length := by omega
        have hall : ∀ x ∈ l, rangeOk s.size x := by have := hR.out; rwa [hkl, List.take_length] at this
        have hf := HF.out
        rw [if_neg (fun g => g hall)] at hf
        have HF2 := Lib.hid hf
        have HALL := Lib.hid hall
        clear hf hall hkl hR HF
        have hcl := clash_same l (fun x hx => ⟨(HALL.out x hx).1, (HALL.out x hx).2.1⟩)
        have HCL := Lib.hid hcl
        clear hcl
        go_wp2
        go_loopw [6, 7] (fun i _ wr => ∃ k : Nat, k ≤ l.length ∧ i = .int .i64 k ∧ Hid (∀ x ∈ l.take k, ∀ y ∈ l.take k, x ≠ y → touchF x y = false) ∧ Below w.heap.size w wr) (fun i _ _ => l.length - (intOf i).toNat)
        case atStart => exact ⟨0, Nat.zero_le _, rfl, (fun x hx => by simp at hx), hb⟩
        case round =>
          obtain ⟨k, hk, rfl, hP, hb⟩ := hrel
          by_cases hlt : k < l.length
          · obtain ⟨b, off, eA, hB, c0, c1, c2⟩ := (HE.out.below hb).at_ k hlt
            cases eA
            go_wp2
            obtain ⟨wo, rfl⟩ : ∃ wo : World, wo = wr := ⟨_, rfl⟩
            clear c0 c1 c2
            go_loopw [7] (fun i wr => ∃ q : Nat, q ≤ k ∧ i = .int .i64 q ∧ Hid (∀ y ∈ l.take q, l[k] ≠ y → touchF l[k] y = false) ∧ Below w.heap.size w wr) (fun i _ => k - (intOf i).toNat)
            case atStart => exact ⟨0, Nat.zero_le _, rfl, (fun x hx => by simp at hx), hb⟩
            case round =>
              obtain ⟨q, hq, rfl, hQ, hb⟩ := hrel
              by_cases hqk : q < k
              · obtain ⟨b1, off1, e1, hB1, c0, c1, c2⟩ := (HE.out.below hb).at_ k hlt
                cases e1
                obtain ⟨b2, off2, e2, hB2, d0, d1, d2⟩ := (HE.out.below hb).at_ q (by omega)
                cases e2
                have hmk : l[k] ∈ l := List.getElem_mem hlt
                have hmq : l[q] ∈ l := List.getElem_mem (by omega)
                have hqs : touchF l[k] l[q] = false ∨ l[k] = l[q] → ∀ y ∈ l.take (q + 1), l[k] ≠ y → touchF l[k] y = false := fun hor y hy hne => by
                  rw [List.take_succ_eq_append_getElem (by omega), List.mem_append, List.mem_singleton] at hy
                  rcases hy with hy | rfl
                  · exact hQ.out y hy hne
                  · rcases hor with g | g
                    · exact g
                    · exact absurd g hne
                have hbad : touchF l[k] l[q] = true → l[k] ≠ l[q] → fineF s.size l = 10 := fun ht hne => by
                  have hc : clashGo (ordF l) 0 (-1) = true := by
                    cases g : clashGo (ordF l) 0 (-1)
                    · exact absurd ⟨l[k], hmk, l[q], hmq, hne, ht⟩ (HCL.out.1 g)
                    · rfl
                  rw [HF2.out, hc]; rfl
                have hto := fun W => touch_any l[k] l[q] W
                generalize l[k] = x at *
                generalize l[q] = y at *
                have hnq := fun W => run_neqEd x y W
                unfold Ed.val at hto
                have HQS := Lib.hid hqs
                have HBAD := Lib.hid hbad
                clear hqs hbad hmk hmq
                by_cases hxy : x = y
                · have hxy' : (!decide (x = y)) = false := by simp [hxy]
                  rw [hxy'] at hnq
                  have HXY := Lib.hid hxy
                  clear hxy hxy' hto
                  go_wp2
                  go_region
                  go_wp2
                  go_roundw
                  case rel => exact ⟨q + 1, by omega, by go_num, HQS.out (.inr HXY.out), hb.drew⟩
                  case measure => simp [intOf]; omega
                · have hxy' : (!decide (x = y)) = true := by simp [hxy]
                  rw [hxy'] at hnq
                  have HXY := Lib.hid hxy
                  have HTO := Lib.hid hto
                  clear hxy hxy' hto
                  have hql : q < l.length := by omega
                  have i1 : (q : Int) < (l.length : Int) := by omega
                  by_cases htt : touchF x y = true
                  · skip
                    have hto2 := HTO.out
                    rw [htt] at hto2
                    have HTO2 := Lib.hid hto2
                    have HT := Lib.hid htt
                    have hbd : Below w.heap.size w wr.drew := hb.drew
                    clear htt hto2 HTO
                    go_wp2_with fail
                    go_region_held3 (fun w' => w'.cell? ⟨b, off + k * 3, none⟩ = some (.int .i64 x.f) ∧ w'.cell? ⟨b, off + k * 3 + 1, none⟩ = some (.int .i64 x.t) ∧ w'.cell? ⟨b, off + k * 3 + 2, none⟩ = some (.string x.s) ∧ w'.cell? ⟨b, off + q * 3, none⟩ = some (.int .i64 y.f) ∧ w'.cell? ⟨b, off + q * 3 + 1, none⟩ = some (.int .i64 y.t) ∧ w'.cell? ⟨b, off + q * 3 + 2, none⟩ = some (.string y.s) ∧ Below w.heap.size w w')
                      (go_keep)
                      (first
                        | (go_at_call 60; refine (HTO2.out _).mono ?_; rintro e w' ⟨rfl, hbt⟩; have f1 : w'.cell? ⟨b, off + k * 3, none⟩ = some (.int .i64 x.f) := below_cells hbt (by assumption); have f2 : w'.cell? ⟨b, off + k * 3 + 1, none⟩ = some (.int .i64 x.t) := below_cells hbt (by assumption); have f3 : w'.cell? ⟨b, off + k * 3 + 2, none⟩ = some (.string x.s) := below_cells hbt (by assumption); have f4 : w'.cell? ⟨b, off + q * 3, none⟩ = some (.int .i64 y.f) := below_cells hbt (by assumption); have f5 : w'.cell? ⟨b, off + q * 3 + 1, none⟩ = some (.int .i64 y.t) := below_cells hbt (by assumption); have f6 : w'.cell? ⟨b, off + q * 3 + 2, none⟩ = some (.string y.s) := below_cells hbt (by assumption); have f7 : Below w.heap.size w w' := Below.trans (by assumption) (hbt.mono (Below.size (by assumption)))))
                    go_wp2
                    go_ret
                    exact ⟨ret_int (HBAD.out HT.out HXY.out).symm, by assumption⟩
                  · replace htt : touchF x y = false := by simpa using htt
                    have hto2 := HTO.out
                    rw [htt] at hto2
                    have HTO2 := Lib.hid hto2
                    have HT := Lib.hid htt
                    have hbd : Below w.heap.size w wr.drew := hb.drew
                    clear htt hto2 HTO
                    go_wp2_with fail
                    go_region_held3 (fun w' => w'.cell? ⟨b, off + k * 3, none⟩ = some (.int .i64 x.f) ∧ w'.cell? ⟨b, off + k * 3 + 1, none⟩ = some (.int .i64 x.t) ∧ w'.cell? ⟨b, off + k * 3 + 2, none⟩ = some (.string x.s) ∧ w'.cell? ⟨b, off + q * 3, none⟩ = some (.int .i64 y.f) ∧ w'.cell? ⟨b, off + q * 3 + 1, none⟩ = some (.int .i64 y.t) ∧ w'.cell? ⟨b, off + q * 3 + 2, none⟩ = some (.string y.s) ∧ Below w.heap.size w w')
                      (go_keep)
                      (first
                        | (go_at_call 60; refine (HTO2.out _).mono ?_; rintro e w' ⟨rfl, hbt⟩; have f1 : w'.cell? ⟨b, off + k * 3, none⟩ = some (.int .i64 x.f) := below_cells hbt (by assumption); have f2 : w'.cell? ⟨b, off + k * 3 + 1, none⟩ = some (.int .i64 x.t) := below_cells hbt (by assumption); have f3 : w'.cell? ⟨b, off + k * 3 + 2, none⟩ = some (.string x.s) := below_cells hbt (by assumption); have f4 : w'.cell? ⟨b, off + q * 3, none⟩ = some (.int .i64 y.f) := below_cells hbt (by assumption); have f5 : w'.cell? ⟨b, off + q * 3 + 1, none⟩ = some (.int .i64 y.t) := below_cells hbt (by assumption); have f6 : w'.cell? ⟨b, off + q * 3 + 2, none⟩ = some (.string y.s) := below_cells hbt (by assumption); have f7 : Below w.heap.size w w' := Below.trans (by assumption) (hbt.mono (Below.size (by assumption)))))
                    go_wp2
                    go_roundw
                    case rel => exact ⟨q + 1, by omega, by go_num, HQS.out (.inl HT.out), by assumption⟩
                    case measure => simp [intOf]; omega
              · obtain rfl : q = k := by omega
                go_wp2
                go_roundw
                case rel =>
                  refine ⟨q + 1, by omega, by go_num, fun x hx y hy hne => ?_, hb⟩
                  rw [List.take_succ_eq_append_getElem hlt, List.mem_append, List.mem_singleton] at hx hy
                  rcases hx with hx | rfl <;> rcases hy with hy | rfl
                  · exact hP.out x hx y hy hne
                  · rw [touchF_comm]; exact hQ.out x hx (fun g => hne g.symm)
                  · exact hQ.out y hy hne
                  · exact absurd rfl hne
                case measure => simp [intOf]; omega
          · obtain rfl : k = l.length := by omega
            have hnc : ¬ clashR l := by
              rintro ⟨x, hx, y, hy, hne, ht⟩
              have := hP.out x (by simpa using hx) y (by simpa using hy) hne
              rw [this] at ht
              cases ht
            have e : fineF s.size l = 0 := by
              rw [HF2.out, HCL.out.2 hnc]; rfl
            have E := Lib.hid e
            clear e hnc hP
            go_wp2
            go_ret
            exact ⟨ret_int E.out.symm, hb⟩

end Go.Proofs.YtgpmodbndngcoaaDoor
