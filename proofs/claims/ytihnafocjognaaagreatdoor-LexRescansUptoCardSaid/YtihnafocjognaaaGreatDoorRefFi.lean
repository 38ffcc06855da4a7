/- The document's small functions over edits: touch, before, EqEdits; the program's Fine. The program's way to find touching edits (one look along the order) is the document's (each two). The document's Fine. -/
import Derived.Test.YtihnafocjognaaaGreatDoorApp
import Derived.RegionTactic
import Derived.Test.YtihnafocjognaaaGreatDoorSort
import Derived.Deep.RegionHeld3

namespace Go.Proofs.YtihnafocjognaaaGreatDoor
open Go.RowKit Go.Maps

/-- whether two edits touch, as the document says it -/
def touchF (x y : Ed) : Bool :=
  if x.f = x.t ∧ y.f = y.t then decide (x.f = y.f) else if x.f = x.t then decide (x.f > y.f ∧ x.f < y.t) else if y.f = y.t then decide (y.f > x.f ∧ y.f < x.t) else decide (x.f < y.t ∧ y.f < x.t)

def Ed.val (x : Ed) : Value := .agg #[.int .i64 x.f, .int .i64 x.t, .string x.s]

set_option maxHeartbeats 1000000 in
set_option maxRecDepth 100000 in
theorem touch_any (x y : Ed) (w : World) : Calls Tryz.prog 36 #[x.val, y.val] w fun e w' => e = .returned (.bool (touchF x y)) ∧ Below w.heap.size w w' := by
  obtain ⟨f, t, s⟩ := x
  obtain ⟨g, u, r⟩ := y
  unfold touchF Ed.val
  simp only
  by_cases p : f = t
  · by_cases q : g = u
    · subst p q
      rw [if_pos ⟨rfl, rfl⟩]
      go_enter Tryz.func36, Tryz.ntmps36
      go_wp2
      go_ret
      exact ⟨ret_bool (by first | rfl | rw [r2] | simp), (by first | exact Below.refl _ _ | exact ((Below.refl _ w).alloc (Nat.le_refl _) _).alloc (by simp) _ | exact (((Below.refl _ w).alloc (Nat.le_refl _) _).alloc (by simp) _).drew)⟩
    · subst p
      rw [if_neg (fun e => q e.2), if_pos rfl]
      go_enter Tryz.func36, Tryz.ntmps36
      by_cases r1 : g < f
      · have r2 : decide (f > g ∧ f < u) = decide (f < u) := by simp [r1]
        go_wp2
        go_ret
        exact ⟨ret_bool (by first | rfl | rw [r2] | simp), (by first | exact Below.refl _ _ | exact ((Below.refl _ w).alloc (Nat.le_refl _) _).alloc (by simp) _ | exact (((Below.refl _ w).alloc (Nat.le_refl _) _).alloc (by simp) _).drew)⟩
      · have r2 : decide (f > g ∧ f < u) = false := by simp; omega
        go_wp2
        go_ret
        exact ⟨ret_bool (by first | rfl | rw [r2] | simp), (by first | exact Below.refl _ _ | exact ((Below.refl _ w).alloc (Nat.le_refl _) _).alloc (by simp) _ | exact (((Below.refl _ w).alloc (Nat.le_refl _) _).alloc (by simp) _).drew)⟩
  · by_cases q : g = u
    · subst q
      rw [if_neg (fun e => p e.1), if_neg p, if_pos rfl]
      go_enter Tryz.func36, Tryz.ntmps36
      by_cases r1 : f < g
      · have r2 : decide (g > f ∧ g < t) = decide (g < t) := by simp [r1]
        go_wp2
        go_ret
        exact ⟨ret_bool (by first | rfl | rw [r2] | simp), (by first | exact Below.refl _ _ | exact ((Below.refl _ w).alloc (Nat.le_refl _) _).alloc (by simp) _ | exact (((Below.refl _ w).alloc (Nat.le_refl _) _).alloc (by simp) _).drew)⟩
      · have r2 : decide (g > f ∧ g < t) = false := by simp; omega
        go_wp2
        go_ret
        exact ⟨ret_bool (by first | rfl | rw [r2] | simp), (by first | exact Below.refl _ _ | exact ((Below.refl _ w).alloc (Nat.le_refl _) _).alloc (by simp) _ | exact (((Below.refl _ w).alloc (Nat.le_refl _) _).alloc (by simp) _).drew)⟩
    · rw [if_neg (fun e => p e.1), if_neg p, if_neg q]
      go_enter Tryz.func36, Tryz.ntmps36
      by_cases r1 : f < u
      · have r2 : decide (f < u ∧ g < t) = decide (g < t) := by simp [r1]
        go_wp2
        go_ret
        exact ⟨ret_bool (by first | rfl | rw [r2] | simp), (by first | exact Below.refl _ _ | exact ((Below.refl _ w).alloc (Nat.le_refl _) _).alloc (by simp) _ | exact (((Below.refl _ w).alloc (Nat.le_refl _) _).alloc (by simp) _).drew)⟩
      · have r2 : decide (f < u ∧ g < t) = false := by simp; omega
        go_wp2
        go_ret
        exact ⟨ret_bool (by first | rfl | rw [r2] | simp), (by first | exact Below.refl _ _ | exact ((Below.refl _ w).alloc (Nat.le_refl _) _).alloc (by simp) _ | exact (((Below.refl _ w).alloc (Nat.le_refl _) _).alloc (by simp) _).drew)⟩

end Go.Proofs.YtihnafocjognaaaGreatDoor

namespace Go.Proofs.YtihnafocjognaaaGreatDoor
open Go.RowKit

theorem touchF_comm (x y : Ed) : touchF x y = touchF y x := by
  unfold touchF
  by_cases p : x.f = x.t <;> by_cases q : y.f = y.t
  · rw [if_pos ⟨p, q⟩, if_pos ⟨q, p⟩, decide_eq_decide]; omega
  · rw [if_neg (fun e => q e.2), if_pos p, if_neg (fun e => q e.1), if_neg q, if_pos p]
  · rw [if_neg (fun e => p e.1), if_neg p, if_pos q, if_neg (fun e => p e.2), if_pos q]
  · rw [if_neg (fun e => p e.1), if_neg p, if_neg q, if_neg (fun e => q e.1), if_neg q, if_neg p, decide_eq_decide]; omega

theorem touchF_false (x y : Ed) : touchF x y = false ↔ (if x.f = x.t ∧ y.f = y.t then ¬ x.f = y.f else if x.f = x.t then ¬ (x.f > y.f ∧ x.f < y.t) else if y.f = y.t then ¬ (y.f > x.f ∧ y.f < x.t) else ¬ (x.f < y.t ∧ y.f < x.t)) := by
  unfold touchF
  split
  · simp
  · split
    · simp
    · split <;> simp

theorem ltE_le {x y : Ed} (h : ltE x y) : x.f < y.f ∨ (x.f = y.f ∧ x.t ≤ y.t) := by
  rcases h with h | ⟨h, k | ⟨k, _⟩⟩
  · exact .inl h
  · exact .inr ⟨h, by omega⟩
  · exact .inr ⟨h, by omega⟩

theorem clashGo_false : ∀ (S : List Ed) (e p : Int), S.Pairwise ltE → (∀ x ∈ S, x.f ≤ x.t) → (∀ x ∈ S, p ≤ x.f) →
    (clashGo S e p = false ↔ (∀ x ∈ S, e ≤ x.f) ∧ (∀ x ∈ S, x.f = x.t → x.f ≠ p) ∧ S.Pairwise (fun y x => touchF y x = false))
  | [], e, p, _, _, _ => by simp [clashGo]
  | x :: l, e, p, hs, ht, hp => by
    obtain ⟨hx, hs'⟩ := List.pairwise_cons.1 hs
    have htx := ht x (List.mem_cons_self ..)
    have hpx := hp x (List.mem_cons_self ..)
    have htl : ∀ z ∈ l, z.f ≤ z.t := fun z hz => ht z (List.mem_cons_of_mem _ hz)
    have hpl : ∀ z ∈ l, p ≤ z.f := fun z hz => hp z (List.mem_cons_of_mem _ hz)
    have hle : ∀ z ∈ l, x.f < z.f ∨ (x.f = z.f ∧ x.t ≤ z.t) := fun z hz => ltE_le (hx z hz)
    rw [clashGo, List.pairwise_cons]
    by_cases h1 : x.f < e ∨ (x.f = x.t ∧ x.f = p)
    · rw [if_pos h1]
      constructor
      · intro h; cases h
      · rintro ⟨a, b, _⟩
        rcases h1 with h1 | ⟨h1, h2⟩
        · have := a x (List.mem_cons_self ..); omega
        · exact absurd h2 (b x (List.mem_cons_self ..) h1)
    · rw [if_neg h1]
      by_cases h2 : x.f = x.t
      · rw [if_pos h2, clashGo_false l e x.f hs' htl (fun z hz => by rcases hle z hz with g | g <;> omega)]
        constructor
        · rintro ⟨a, b, c⟩
          refine ⟨fun z hz => ?_, fun z hz hzt => ?_, fun z hz => ?_, c⟩
          · rcases List.mem_cons.1 hz with rfl | hz
            · omega
            · exact a z hz
          · rcases List.mem_cons.1 hz with rfl | hz
            · exact fun g => h1 (.inr ⟨h2, g⟩)
            · have := b z hz hzt
              rcases hle z hz with g | g
              · have := hpx; omega
              · omega
          · rw [touchF_false]
            by_cases hzt : z.f = z.t
            · rw [if_pos ⟨h2, hzt⟩]
              exact fun g => b z hz hzt g.symm
            · rw [if_neg (fun g => hzt g.2), if_pos h2]
              rcases hle z hz with g | g <;> omega
        · rintro ⟨a, b, c, d⟩
          refine ⟨fun z hz => a z (List.mem_cons_of_mem _ hz), fun z hz hzt => ?_, d⟩
          have := (touchF_false x z).1 (c z hz)
          rw [if_pos ⟨h2, hzt⟩] at this
          exact fun g => this g.symm
      · rw [if_neg h2, clashGo_false l x.t p hs' htl hpl]
        constructor
        · rintro ⟨a, b, c⟩
          refine ⟨fun z hz => ?_, fun z hz hzt => ?_, fun z hz => ?_, c⟩
          · rcases List.mem_cons.1 hz with rfl | hz
            · omega
            · have := a z hz; omega
          · rcases List.mem_cons.1 hz with rfl | hz
            · exact absurd hzt h2
            · exact b z hz hzt
          · rw [touchF_false, if_neg (fun g => h2 g.1), if_neg h2]
            have := a z hz
            split <;> omega
        · rintro ⟨a, b, c, d⟩
          refine ⟨fun z hz => ?_, fun z hz hzt => b z (List.mem_cons_of_mem _ hz) hzt, d⟩
          have := (touchF_false x z).1 (c z hz)
          rw [if_neg (fun g => h2 g.1), if_neg h2] at this
          have hzt := htl z hz
          split at this
          · rcases hle z hz with g | g <;> omega
          · rcases hle z hz with g | g <;> omega

/-- whether two different edits of the list touch -/
def clashR (l : List Ed) : Prop := ∃ x ∈ l, ∃ y ∈ l, x ≠ y ∧ touchF x y = true

theorem clash_same (l : List Ed) (h : ∀ x ∈ l, 0 ≤ x.f ∧ x.f ≤ x.t) : clashGo (ordF l) 0 (-1) = false ↔ ¬ clashR l := by
  rw [clashGo_false (ordF l) 0 (-1) (sorted_ordF l) (fun x hx => (h x ((mem_ordF x l).1 hx)).2) (fun x hx => by have := (h x ((mem_ordF x l).1 hx)).1; omega)]
  constructor
  · rintro ⟨_, _, c⟩ ⟨x, hx, y, hy, hne, ht⟩
    have key : ∀ (L : List Ed), L.Pairwise (fun y x => touchF y x = false) → ∀ x ∈ L, ∀ y ∈ L, x ≠ y → touchF x y = false := by
      intro L hL
      induction L with
      | nil => intro x hx; simp at hx
      | cons z L ih =>
        obtain ⟨h1, h2⟩ := List.pairwise_cons.1 hL
        intro x hx y hy hne
        rcases List.mem_cons.1 hx with ex | kx <;> rcases List.mem_cons.1 hy with ey | ky
        · exact absurd (ex.trans ey.symm) hne
        · rw [ex]; exact h1 y ky
        · rw [touchF_comm, ey]; exact h1 x kx
        · exact ih h2 x kx y ky hne
    have := key _ c x ((mem_ordF x l).2 hx) y ((mem_ordF y l).2 hy) hne
    rw [this] at ht
    cases ht
  · intro hn
    refine ⟨fun x hx => (h x ((mem_ordF x l).1 hx)).1, fun x hx _ => by have := (h x ((mem_ordF x l).1 hx)).1; omega, ?_⟩
    have hs := sorted_ordF l
    have hm := fun x => mem_ordF x l
    have key : ∀ (L : List Ed), L.Pairwise ltE → (∀ x ∈ L, x ∈ l) → L.Pairwise (fun y x => touchF y x = false) := by
      intro L hL hmem
      induction L with
      | nil => exact List.Pairwise.nil
      | cons z L ih =>
        obtain ⟨h1, h2⟩ := List.pairwise_cons.1 hL
        refine List.pairwise_cons.2 ⟨fun y hy => ?_, ih h2 (fun x hx => hmem x (List.mem_cons_of_mem _ hx))⟩
        cases e : touchF z y
        · rfl
        · exact absurd ⟨z, hmem z (List.mem_cons_self ..), y, hmem y (List.mem_cons_of_mem _ hy), fun g => ltE_irrefl y (by have := h1 y hy; rwa [g] at this), e⟩ hn
    exact key _ hs (fun x hx => (hm x).1 hx)

end Go.Proofs.YtihnafocjognaaaGreatDoor

namespace Go.Proofs.YtihnafocjognaaaGreatDoor
open Go.RowKit Go.Maps

theorem below_cells {w w' : World} (h : Below w.heap.size w w') {p : Addr} {v : Value} (hc : w.cell? p = some v) : w'.cell? p = some v := by
  refine (h.cell (p := p) ?_).trans hc
  rcases Nat.lt_or_ge p.block w.heap.size with g | g
  · exact g
  · unfold World.cell? at hc
    rw [Array.getElem?_eq_none g] at hc
    cases hc

set_option maxHeartbeats 2000000 in
set_option maxRecDepth 100000 in
theorem refFine_any (s : ByteArray) (v : Value) (l : List Ed) (w : World) (hs : s.size ≤ 140737488355328) (hl : l.length ≤ 1000000) (h : IsE w v l) :
    Calls Tryz.prog 20 #[.string s, v] w fun e w' => e = .returned (.int .i64 (fineF s.size l)) ∧ Below w.heap.size w w' := by
  obtain ⟨A, c, rfl, hA, h1, h2, hE⟩ := h
  by_cases hn : 200000 < s.size ∨ 10000 < l.length
  · have hf : fineF s.size l = 2 := by unfold fineF; rw [if_pos hn]
    rw [hf]
    clear hf hE hA
    by_cases hn1 : 200000 < s.size
    · go_enter Tryz.func20, Tryz.ntmps20
      go_wp2
      go_ret
      exact ⟨rfl, Below.refl _ _⟩
    · have hn2 : 10000 < l.length := by omega
      go_enter Tryz.func20, Tryz.ntmps20
      go_wp2
      go_ret
      exact ⟨rfl, Below.refl _ _⟩
  · have hn1 : s.size ≤ 200000 := by omega
    have hn2 : l.length ≤ 10000 := by omega
    have HF := Lib.hid (show fineF s.size l = if ¬ ∀ x ∈ l, rangeOk s.size x then 1 else if clashGo (ordF l) 0 (-1) = true then 10 else 0 by unfold fineF; rw [if_neg hn])
    have HE := Lib.hid hE
    clear hn hE hA h1 h2
    go_enter Tryz.func20, Tryz.ntmps20
    go_wp2
    go_loopw [5] (fun i wr => ∃ k : Nat, k ≤ l.length ∧ i = .int .i64 k ∧ Hid (∀ x ∈ l.take k, rangeOk s.size x) ∧ Below w.heap.size w wr) (fun i _ => l.length - (intOf i).toNat)
    case atStart => exact ⟨0, Nat.zero_le _, rfl, (fun x hx => by simp at hx), Below.refl _ _⟩
    case round =>
      obtain ⟨k, hk, rfl, hR, hb⟩ := hrel
      by_cases hlt : k < l.length
      · obtain ⟨b, off, rfl, hB, c0, c1, c2⟩ := (HE.out.below hb).at_ k hlt
        have hmem : l[k] ∈ l := List.getElem_mem hlt
        have hstep : rangeOk s.size l[k] → ∀ x ∈ l.take (k + 1), rangeOk s.size x := fun hr x hx => by
          rw [List.take_succ_eq_append_getElem hlt, List.mem_append, List.mem_singleton] at hx
          rcases hx with hx | rfl
          · exact hR.out x hx
          · exact hr
        have hbad : ¬ rangeOk s.size l[k] → fineF s.size l = 1 := fun hr => by rw [HF.out, if_pos (fun g => hr (g _ hmem))]
        unfold rangeOk at hstep hbad
        generalize l[k].f = f at *
        generalize l[k].t = t at *
        generalize l[k].s = r at *
        have HS := Lib.hid hstep
        have HD := Lib.hid hbad
        clear hstep hbad hmem
        by_cases q1 : f < 0
        · go_wp2
          go_region
          go_wp2
          go_ret
          have e := HD.out (by omega)
          exact ⟨ret_int e.symm, hb.drew⟩
        · have d1 : decide (f < 0) = false := by simp; omega
          have e1 : 0 ≤ f := by omega
          by_cases q3 : (s.size : Int) < t
          · have d3 : decide ((s.size : Int) < t) = true := by simp; omega
            go_wp2
            go_region
            go_wp2
            go_ret
            have e := HD.out (by omega)
            exact ⟨ret_int e.symm, hb.drew⟩
          · have d3 : decide ((s.size : Int) < t) = false := by simp; omega
            have e3 : t ≤ (s.size : Int) := by omega
            by_cases q2 : t < f
            · have d2 : decide (t < f) = true := by simp; omega
              go_wp2
              go_region
              go_wp2
              go_ret
              have e := HD.out (by omega)
              exact ⟨ret_int e.symm, hb.drew⟩
            · have d2 : decide (t < f) = false := by simp; omega
              have e2 : f ≤ t := by omega
              go_wp2
              go_region
              go_wp2
              go_roundw
              case rel => exact ⟨k + 1, by omega, by go_num, HS.out ⟨by omega, by omega, by omega⟩, hb.drew⟩
              case measure => simp [intOf]; omega
      · have hkl : k = l.length := by omega
        have hall : ∀ x ∈ l, rangeOk s.size x := by have := hR.out; rwa [hkl, List.take_length] at this
        have hf := HF.out
        rw [if_neg (fun g => g hall)] at hf
        have HF2 := Lib.hid hf
        have HALL := Lib.hid hall
        clear hf hall hkl hR HF
        have hcl := clash_same l (fun x hx => ⟨(HALL.out x hx).1, (HALL.out x hx).2.1⟩)
        have HCL := Lib.hid hcl
        clear hcl
        go_wp2
        go_loopw [6, 7] (fun i _ wr => ∃ k : Nat, k ≤ l.length ∧ i = .int .i64 k ∧ Hid (∀ x ∈ l.take k, ∀ y ∈ l.take k, x ≠ y → touchF x y = false) ∧ Below w.heap.size w wr) (fun i _ _ => l.length - (intOf i).toNat)
        case atStart => exact ⟨0, Nat.zero_le _, rfl, (fun x hx => by simp at hx), hb⟩
        case round =>
          obtain ⟨k, hk, rfl, hP, hb⟩ := hrel
          by_cases hlt : k < l.length
          · obtain ⟨b, off, eA, hB, c0, c1, c2⟩ := (HE.out.below hb).at_ k hlt
            cases eA
            go_wp2
            obtain ⟨wo, rfl⟩ : ∃ wo : World, wo = wr := ⟨_, rfl⟩
            clear c0 c1 c2
            go_loopw [7] (fun i wr => ∃ q : Nat, q ≤ k ∧ i = .int .i64 q ∧ Hid (∀ y ∈ l.take q, l[k] ≠ y → touchF l[k] y = false) ∧ Below w.heap.size w wr) (fun i _ => k - (intOf i).toNat)
            case atStart => exact ⟨0, Nat.zero_le _, rfl, (fun x hx => by simp at hx), hb⟩
            case round =>
              obtain ⟨q, hq, rfl, hQ, hb⟩ := hrel
              by_cases hqk : q < k
              · obtain ⟨b1, off1, e1, hB1, c0, c1, c2⟩ := (HE.out.below hb).at_ k hlt
                cases e1
                obtain ⟨b2, off2, e2, hB2, d0, d1, d2⟩ := (HE.out.below hb).at_ q (by omega)
                cases e2
                have hmk : l[k] ∈ l := List.getElem_mem hlt
                have hmq : l[q] ∈ l := List.getElem_mem (by omega)
                have hqs : touchF l[k] l[q] = false ∨ l[k] = l[q] → ∀ y ∈ l.take (q + 1), l[k] ≠ y → touchF l[k] y = false := fun hor y hy hne => by
                  rw [List.take_succ_eq_append_getElem (by omega), List.mem_append, List.mem_singleton] at hy
                  rcases hy with hy | rfl
                  · exact hQ.out y hy hne
                  · rcases hor with g | g
                    · exact g
                    · exact absurd g hne
                have hbad : touchF l[k] l[q] = true → l[k] ≠ l[q] → fineF s.size l = 10 := fun ht hne => by
                  have hc : clashGo (ordF l) 0 (-1) = true := by
                    cases g : clashGo (ordF l) 0 (-1)
                    · exact absurd ⟨l[k], hmk, l[q], hmq, hne, ht⟩ (HCL.out.1 g)
                    · rfl
                  rw [HF2.out, hc]; rfl
                have hto := fun W => touch_any l[k] l[q] W
                generalize l[k] = x at *
                generalize l[q] = y at *
                have hnq := fun W => run_neqEd x y W
                unfold Ed.val at hto
                have HQS := Lib.hid hqs
                have HBAD := Lib.hid hbad
                clear hqs hbad hmk hmq
                by_cases hxy : x = y
                · have hxy' : (!decide (x = y)) = false := by simp [hxy]
                  rw [hxy'] at hnq
                  have HXY := Lib.hid hxy
                  clear hxy hxy' hto
                  go_wp2
                  go_region
                  go_wp2
                  go_roundw
                  case rel => exact ⟨q + 1, by omega, by go_num, HQS.out (.inr HXY.out), hb.drew⟩
                  case measure => simp [intOf]; omega
                · have hxy' : (!decide (x = y)) = true := by simp [hxy]
                  rw [hxy'] at hnq
                  have HXY := Lib.hid hxy
                  have HTO := Lib.hid hto
                  clear hxy hxy' hto
                  have hql : q < l.length := by omega
                  have i1 : (q : Int) < (l.length : Int) := by omega
                  by_cases htt : touchF x y = true
                  · skip
                    have hto2 := HTO.out
                    rw [htt] at hto2
                    have HTO2 := Lib.hid hto2
                    have HT := Lib.hid htt
                    have hbd : Below w.heap.size w wr.drew := hb.drew
                    clear htt hto2 HTO
                    go_wp2_with fail
                    go_region_held3 (fun w' => w'.cell? ⟨b, off + k * 3, none⟩ = some (.int .i64 x.f) ∧ w'.cell? ⟨b, off + k * 3 + 1, none⟩ = some (.int .i64 x.t) ∧ w'.cell? ⟨b, off + k * 3 + 2, none⟩ = some (.string x.s) ∧ w'.cell? ⟨b, off + q * 3, none⟩ = some (.int .i64 y.f) ∧ w'.cell? ⟨b, off + q * 3 + 1, none⟩ = some (.int .i64 y.t) ∧ w'.cell? ⟨b, off + q * 3 + 2, none⟩ = some (.string y.s) ∧ Below w.heap.size w w')
                      (go_keep)
                      (first
                        | (go_at_call 36; refine (HTO2.out _).mono ?_; rintro e w' ⟨rfl, hbt⟩; have f1 : w'.cell? ⟨b, off + k * 3, none⟩ = some (.int .i64 x.f) := below_cells hbt (by assumption); have f2 : w'.cell? ⟨b, off + k * 3 + 1, none⟩ = some (.int .i64 x.t) := below_cells hbt (by assumption); have f3 : w'.cell? ⟨b, off + k * 3 + 2, none⟩ = some (.string x.s) := below_cells hbt (by assumption); have f4 : w'.cell? ⟨b, off + q * 3, none⟩ = some (.int .i64 y.f) := below_cells hbt (by assumption); have f5 : w'.cell? ⟨b, off + q * 3 + 1, none⟩ = some (.int .i64 y.t) := below_cells hbt (by assumption); have f6 : w'.cell? ⟨b, off + q * 3 + 2, none⟩ = some (.string y.s) := below_cells hbt (by assumption); have f7 : Below w.heap.size w w' := Below.trans (by assumption) (hbt.mono (Below.size (by assumption)))))
                    go_wp2
                    go_ret
                    exact ⟨ret_int (HBAD.out HT.out HXY.out).symm, by assumption⟩
                  · replace htt : touchF x y = false := by simpa using htt
                    have hto2 := HTO.out
                    rw [htt] at hto2
                    have HTO2 := Lib.hid hto2
                    have HT := Lib.hid htt
                    have hbd : Below w.heap.size w wr.drew := hb.drew
                    clear htt hto2 HTO
                    go_wp2_with fail
                    go_region_held3 (fun w' => w'.cell? ⟨b, off + k * 3, none⟩ = some (.int .i64 x.f) ∧ w'.cell? ⟨b, off + k * 3 + 1, none⟩ = some (.int .i64 x.t) ∧ w'.cell? ⟨b, off + k * 3 + 2, none⟩ = some (.string x.s) ∧ w'.cell? ⟨b, off + q * 3, none⟩ = some (.int .i64 y.f) ∧ w'.cell? ⟨b, off + q * 3 + 1, none⟩ = some (.int .i64 y.t) ∧ w'.cell? ⟨b, off + q * 3 + 2, none⟩ = some (.string y.s) ∧ Below w.heap.size w w')
                      (go_keep)
                      (first
                        | (go_at_call 36; refine (HTO2.out _).mono ?_; rintro e w' ⟨rfl, hbt⟩; have f1 : w'.cell? ⟨b, off + k * 3, none⟩ = some (.int .i64 x.f) := below_cells hbt (by assumption); have f2 : w'.cell? ⟨b, off + k * 3 + 1, none⟩ = some (.int .i64 x.t) := below_cells hbt (by assumption); have f3 : w'.cell? ⟨b, off + k * 3 + 2, none⟩ = some (.string x.s) := below_cells hbt (by assumption); have f4 : w'.cell? ⟨b, off + q * 3, none⟩ = some (.int .i64 y.f) := below_cells hbt (by assumption); have f5 : w'.cell? ⟨b, off + q * 3 + 1, none⟩ = some (.int .i64 y.t) := below_cells hbt (by assumption); have f6 : w'.cell? ⟨b, off + q * 3 + 2, none⟩ = some (.string y.s) := below_cells hbt (by assumption); have f7 : Below w.heap.size w w' := Below.trans (by assumption) (hbt.mono (Below.size (by assumption)))))
                    go_wp2
                    go_roundw
                    case rel => exact ⟨q + 1, by omega, by go_num, HQS.out (.inl HT.out), by assumption⟩
                    case measure => simp [intOf]; omega
              · obtain rfl : q = k := by omega
                go_wp2
                go_roundw
                case rel =>
                  refine ⟨q + 1, by omega, by go_num, fun x hx y hy hne => ?_, hb⟩
                  rw [List.take_succ_eq_append_getElem hlt, List.mem_append, List.mem_singleton] at hx hy
                  rcases hx with hx | rfl <;> rcases hy with hy | rfl
                  · exact hP.out x hx y hy hne
                  · rw [touchF_comm]; exact hQ.out x hx (fun g => hne g.symm)
                  · exact hQ.out y hy hne
                  · exact absurd rfl hne
                case measure => simp [intOf]; omega
          · obtain rfl : k = l.length := by omega
            have hnc : ¬ clashR l := by
              rintro ⟨x, hx, y, hy, hne, ht⟩
              have := hP.out x (by simpa using hx) y (by simpa using hy) hne
              rw [this] at ht
              cases ht
            have e : fineF s.size l = 0 := by
              rw [HF2.out, HCL.out.2 hnc]; rfl
            have E := Lib.hid e
            clear e hnc hP
            go_wp2
            go_ret
            exact ⟨ret_int E.out.symm, hb⟩

end Go.Proofs.YtihnafocjognaaaGreatDoor
