/- The program's way to find touching edits (one look along the order) is the document's (each two). -/
import Derived.Test.YtgpmodbndngcoaaDoorRefA
namespace Go.Proofs.YtgpmodbndngcoaaDoor
open Go.RowKit

theorem touchF_comm (x y : Ed) : touchF x y = touchF y x := by
  unfold touchF
  by_cases p : x.f = x.t <;> by_cases q : y.f = y.t
  · rw [if_pos ⟨p, q⟩, if_pos ⟨q, p⟩, decide_eq_decide]; omega
  · rw [if_neg (fun e => q e.2), if_pos p, if_neg (fun e => q e.1), if_neg q, if_pos p]
  · rw [if_neg (fun e => p e.1), if_neg p, if_pos q, if_neg (fun e => p e.2), if_pos q]
  · rw [if_neg (fun e => p e.1), if_neg p, if_neg q, if_neg (fun e => q e.1), if_neg q, if_neg p, decide_eq_decide]; omega

theorem touchF_false (x y : Ed) : touchF x y = false ↔ (if x.f = x.t ∧ y.f = y.t then ¬ x.f = y.f else if x.f = x.t then ¬ (x.f > y.f ∧ x.f < y.t) else if y.f = y.t then ¬ (y.f > x.f ∧ y.f < x.t) else ¬ (x.f < y.t ∧ y.f < x.t)) := by
  unfold touchF
  split
  · simp
  · split
    · simp
    · split <;> simp

theorem ltE_le {x y : Ed} (h : ltE x y) : x.f < y.f ∨ (x.f = y.f ∧ x.t ≤ y.t) := by
  rcases h with h | ⟨h, k | ⟨k, _⟩⟩
  · exact .inl h
  · exact .inr ⟨h, by omega⟩
  · exact .inr ⟨h, by omega⟩

theorem clashGo_false : ∀ (S : List Ed) (e p : Int), S.Pairwise ltE → (∀ x ∈ S, x.f ≤ x.t) → (∀ x ∈ S, p ≤ x.f) →
    (clashGo S e p = false ↔ (∀ x ∈ S, e ≤ x.f) ∧ (∀ x ∈ S, x.f = x.t → x.f ≠ p) ∧ S.Pairwise (fun y x => touchF y x = false))
  | [], e, p, _, _, _ => by simp [clashGo]
  | x :: l, e, p, hs, ht, hp => by
    obtain ⟨hx, hs'⟩ := List.pairwise_cons.1 hs
    have htx := ht x (List.mem_cons_self ..)
    have hpx := hp x (List.mem_cons_self ..)
    have htl : ∀ z ∈ l, z.f ≤ z.t := fun z hz => ht z (List.mem_cons_of_mem _ hz)
    have hpl : ∀ z ∈ l, p ≤ z.f := fun z hz => hp z (List.mem_cons_of_mem _ hz)
    have hle : ∀ z ∈ l, x.f < z.f ∨ (x.f = z.f ∧ x.t ≤ z.t) := fun z hz => ltE_le (hx z hz)
    rw [clashGo, List.pairwise_cons]
    by_cases h1 : x.f < e ∨ (x.f = x.t ∧ x.f = p)
    · rw [if_pos h1]
      constructor
      · intro h; cases h
      · rintro ⟨a, b, _⟩
        rcases h1 with h1 | ⟨h1, h2⟩
        · have := a x (List.mem_cons_self ..); omega
        · exact absurd h2 (b x (List.mem_cons_self ..) h1)
    · rw [if_neg h1]
      by_cases h2 : x.f = x.t
      · rw [if_pos h2, clashGo_false l e x.f hs' htl (fun z hz => by rcases hle z hz with g | g <;> omega)]
        constructor
        · rintro ⟨a, b, c⟩
          refine ⟨fun z hz => ?_, fun z hz hzt => ?_, fun z hz => ?_, c⟩
          · rcases List.mem_cons.1 hz with rfl | hz
            · omega
            · exact a z hz
          · rcases List.mem_cons.1 hz with rfl | hz
            · exact fun g => h1 (.inr ⟨h2, g⟩)
            · have := b z hz hzt
              rcases hle z hz with g | g
              · have := hpx; omega
              · omega
          · rw [touchF_false]
            by_cases hzt : z.f = z.t
            · rw [if_pos ⟨h2, hzt⟩]
              exact fun g => b z hz hzt g.symm
            · rw [if_neg (fun g => hzt g.2), if_pos h2]
              rcases hle z hz with g | g <;> omega
        · rintro ⟨a, b, c, d⟩
          refine ⟨fun z hz => a z (List.mem_cons_of_mem _ hz), fun z hz hzt => ?_, d⟩
          have := (touchF_false x z).1 (c z hz)
          rw [if_pos ⟨h2, hzt⟩] at this
          exact fun g => this g.symm
      · rw [if_neg h2, clashGo_false l x.t p hs' htl hpl]
        constructor
        · rintro ⟨a, b, c⟩
          refine ⟨fun z hz => ?_, fun z hz hzt => ?_, fun z hz => ?_, c⟩
          · rcases List.mem_cons.1 hz with rfl | hz
            · omega
            · have := a z hz; omega
          · rcases List.mem_cons.1 hz with rfl | hz
            · exact absurd hzt h2
            · exact b z hz hzt
          · rw [touchF_false, if_neg (fun g => h2 g.1), if_neg h2]
            have := a z hz
            split <;> omega
        · rintro ⟨a, b, c, d⟩
          refine ⟨fun z hz => ?_, fun z hz hzt => b z (List.mem_cons_of_mem _ hz) hzt, d⟩
          have := (touchF_false x z).1 (c z hz)
          rw [if_neg (fun g => h2 g.1), if_neg h2] at this
          have hzt := htl z hz
          split at this
          · rcases hle z hz with g | g <;> omega
          · rcases hle z hz with g | g <;> omega

/-- whether two different edits of the list touch -/
def clashR (l : List Ed) : Prop := ∃ x ∈ l, ∃ y ∈ l, x ≠ y ∧ touchF x y = true

theorem clash_same (l : List Ed) (h : ∀ x ∈ l, 0 ≤ x.f ∧ x.f ≤ x.t) : clashGo (ordF l) 0 (-1) = false ↔ ¬ clashR l := by
  rw [clashGo_false (ordF l) 0 (-1) (sorted_ordF l) (fun x hx => (h x ((mem_ordF x l).1 hx)).2) (fun x hx => by have := (h x ((mem_ordF x l).1 hx)).1; omega)]
  constructor
  · rintro ⟨_, _, c⟩ ⟨x, hx, y, hy, hne, ht⟩
    have key : ∀ (L : List Ed), L.Pairwise (fun y x => touchF y x = false) → ∀ x ∈ L, ∀ y ∈ L, x ≠ y → touchF x y = false := by
      intro L hL
      induction L with
      | nil => intro x hx; simp at hx
      | cons z L ih =>
        obtain ⟨h1, h2⟩ := List.pairwise_cons.1 hL
        intro x hx y hy hne
        rcases List.mem_cons.1 hx with ex | kx <;> rcases List.mem_cons.1 hy with ey | ky
        · exact absurd (ex.trans ey.symm) hne
        · rw [ex]; exact h1 y ky
        · rw [touchF_comm, ey]; exact h1 x kx
        · exact ih h2 x kx y ky hne
    have := key _ c x ((mem_ordF x l).2 hx) y ((mem_ordF y l).2 hy) hne
    rw [this] at ht
    cases ht
  · intro hn
    refine ⟨fun x hx => (h x ((mem_ordF x l).1 hx)).1, fun x hx _ => by have := (h x ((mem_ordF x l).1 hx)).1; omega, ?_⟩
    have hs := sorted_ordF l
    have hm := fun x => mem_ordF x l
    have key : ∀ (L : List Ed), L.Pairwise ltE → (∀ x ∈ L, x ∈ l) → L.Pairwise (fun y x => touchF y x = false) := by
      intro L hL hmem
      induction L with
      | nil => exact List.Pairwise.nil
      | cons z L ih =>
        obtain ⟨h1, h2⟩ := List.pairwise_cons.1 hL
        refine List.pairwise_cons.2 ⟨fun y hy => ?_, ih h2 (fun x hx => hmem x (List.mem_cons_of_mem _ hx))⟩
        cases e : touchF z y
        · rfl
        · exact absurd ⟨z, hmem z (List.mem_cons_self ..), y, hmem y (List.mem_cons_of_mem _ hy), fun g => ltE_irrefl y (by have := h1 y hy; rwa [g] at this), e⟩ hn
    exact key _ hs (fun x hx => (hm x).1 hx)

end Go.Proofs.YtgpmodbndngcoaaDoor
