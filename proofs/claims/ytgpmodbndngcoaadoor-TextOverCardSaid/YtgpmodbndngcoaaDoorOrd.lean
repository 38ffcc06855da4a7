/- Plain lemmas on the order of edits: the comparison is a strict total order; sorted lists without doubles are unique. -/
import Derived.Test.YtgpmodbndngcoaaDoorCmp2
namespace Go.Proofs.YtgpmodbndngcoaaDoor
open Go.RowKit Go.Sort Go.Lib

theorem cb_self : ∀ a : List UInt8, compareBytes a a = 0
  | [] => rfl
  | a :: l => by rw [compareBytes, if_neg (UInt8.lt_irrefl a), if_neg (UInt8.lt_irrefl a), cb_self l]

theorem cb_anti : ∀ a b : List UInt8, compareBytes b a = - compareBytes a b
  | [], [] => rfl
  | [], _ :: _ => rfl
  | _ :: _, [] => rfl
  | a :: l, b :: r => by
    simp only [compareBytes]
    have ih := cb_anti l r
    by_cases h1 : a < b
    · have h2 : ¬ b < a := fun h => UInt8.lt_irrefl a (UInt8.lt_trans h1 h)
      simp [h1, h2]
    · by_cases h2 : b < a
      · simp [h1, h2]
      · simp [h1, h2, ih]

theorem u8_eq {a b : UInt8} (h1 : ¬ a < b) (h2 : ¬ b < a) : a = b := by
  rw [UInt8.lt_iff_toNat_lt] at h1 h2
  exact UInt8.toNat_inj.1 (by omega)

theorem cb_eq : ∀ a b : List UInt8, compareBytes a b = 0 → a = b
  | [], [], _ => rfl
  | [], _ :: _, h => by simp [compareBytes] at h
  | _ :: _, [], h => by simp [compareBytes] at h
  | a :: l, b :: r, h => by
    simp only [compareBytes] at h
    by_cases h1 : a < b
    · simp [h1] at h
    · by_cases h2 : b < a
      · simp [h1, h2] at h
      · simp only [h1, h2, if_false] at h
        rw [u8_eq h1 h2, cb_eq l r h]

theorem cb_trans : ∀ a b c : List UInt8, compareBytes a b < 0 → compareBytes b c < 0 → compareBytes a c < 0
  | [], [], _, h, _ => by simp [compareBytes] at h
  | [], _ :: _, [], _, h => by simp [compareBytes] at h
  | [], _ :: _, _ :: _, _, _ => by simp [compareBytes]
  | _ :: _, [], _, h, _ => by simp [compareBytes] at h
  | _ :: _, _ :: _, [], _, h => by simp [compareBytes] at h
  | a :: l, b :: r, c :: s, h, k => by
    simp only [compareBytes] at h k ⊢
    simp only [UInt8.lt_iff_toNat_lt] at h k ⊢
    by_cases h1 : a.toNat < b.toNat
    · by_cases k1 : b.toNat < c.toNat
      · rw [if_pos (by omega)]; omega
      · by_cases k2 : c.toNat < b.toNat
        · simp [k1, k2] at k
        · rw [if_pos (by omega)]; omega
    · by_cases h2 : b.toNat < a.toNat
      · simp [h1, h2] at h
      · by_cases k1 : b.toNat < c.toNat
        · rw [if_pos (by omega)]; omega
        · by_cases k2 : c.toNat < b.toNat
          · simp [k1, k2] at k
          · simp only [h1, h2, k1, k2, if_false] at h k
            rw [if_neg (by omega), if_neg (by omega)]
            exact cb_trans l r s h k

theorem ba_ext {a b : ByteArray} (h : a.data.toList = b.data.toList) : a = b := by
  cases a; cases b; simp_all [Array.toList_inj]

theorem cmpE_self (x : Ed) : cmpE x x = 0 := by simp [cmpE, or3, cmpI, cb_self]

theorem cmpI_anti (a b : Int) : cmpI b a = - cmpI a b := by
  unfold cmpI
  by_cases h1 : a < b
  · rw [if_neg (by omega), if_pos h1, if_pos h1]; rfl
  · by_cases h2 : b < a
    · rw [if_pos h2, if_neg h1, if_pos h2]
    · rw [if_neg h2, if_neg h1, if_neg h1, if_neg h2]; rfl

theorem cmpI_zero {a b : Int} : cmpI a b = 0 ↔ a = b := by
  unfold cmpI
  by_cases h1 : a < b
  · rw [if_pos h1]; omega
  · by_cases h2 : b < a
    · rw [if_neg h1, if_pos h2]; omega
    · rw [if_neg h1, if_neg h2]; omega

theorem cmpI_neg {a b : Int} : cmpI a b < 0 ↔ a < b := by
  unfold cmpI
  by_cases h1 : a < b
  · rw [if_pos h1]; omega
  · by_cases h2 : b < a
    · rw [if_neg h1, if_pos h2]; omega
    · rw [if_neg h1, if_neg h2]; omega

theorem cmpE_anti (x y : Ed) : cmpE y x = - cmpE x y := by
  unfold cmpE
  rw [cmpI_anti x.f y.f, cmpI_anti x.t y.t, cb_anti x.s.data.toList y.s.data.toList]
  generalize cmpI x.f y.f = a
  generalize cmpI x.t y.t = b
  unfold or3
  by_cases ha : a = 0
  · by_cases hb : b = 0
    · simp [ha, hb]
    · simp [ha, hb]
  · simp [ha]

theorem cmpE_eq {x y : Ed} (h : cmpE x y = 0) : x = y := by
  unfold cmpE or3 at h
  by_cases ha : cmpI x.f y.f = 0
  · by_cases hb : cmpI x.t y.t = 0
    · simp [ha, hb] at h
      have h1 := cmpI_zero.1 ha
      have h2 := cmpI_zero.1 hb
      have h3 := ba_ext (cb_eq _ _ h)
      cases x; cases y; simp_all
    · simp [ha, hb] at h
  · simp [ha] at h

/-- the order as a relation -/
def ltE (x y : Ed) : Prop := x.f < y.f ∨ (x.f = y.f ∧ (x.t < y.t ∨ (x.t = y.t ∧ compareBytes x.s.data.toList y.s.data.toList < 0)))

theorem cmpE_neg {x y : Ed} : cmpE x y < 0 ↔ ltE x y := by
  unfold cmpE or3 ltE
  rcases Int.lt_trichotomy x.f y.f with h | h | h
  · have e := cmpI_neg.2 h
    rw [if_pos (by omega)]
    exact ⟨fun _ => .inl h, fun _ => e⟩
  · rw [if_neg (by rw [cmpI_zero.2 h]; simp)]
    rcases Int.lt_trichotomy x.t y.t with k | k | k
    · have e := cmpI_neg.2 k
      rw [if_pos (by omega)]
      exact ⟨fun _ => .inr ⟨h, .inl k⟩, fun _ => e⟩
    · rw [if_neg (by rw [cmpI_zero.2 k]; simp)]
      constructor
      · intro g; exact .inr ⟨h, .inr ⟨k, g⟩⟩
      · rintro (g | ⟨_, g | ⟨_, g⟩⟩)
        · omega
        · omega
        · exact g
    · have e : ¬ cmpI x.t y.t < 0 := fun g => by have := cmpI_neg.1 g; omega
      have e0 : cmpI x.t y.t ≠ 0 := fun g => by have := cmpI_zero.1 g; omega
      rw [if_pos e0]
      constructor
      · intro g; exact absurd g e
      · rintro (g | ⟨_, g | ⟨_, g⟩⟩) <;> omega
  · have e : ¬ cmpI x.f y.f < 0 := fun g => by have := cmpI_neg.1 g; omega
    have e0 : cmpI x.f y.f ≠ 0 := fun g => by have := cmpI_zero.1 g; omega
    rw [if_pos e0]
    constructor
    · intro g; exact absurd g e
    · rintro (g | ⟨_, g | ⟨_, g⟩⟩) <;> omega

theorem ltE_trans {x y z : Ed} (h : ltE x y) (k : ltE y z) : ltE x z := by
  unfold ltE at *
  rcases h with h | ⟨h1, h | ⟨h2, h⟩⟩ <;> rcases k with k | ⟨k1, k | ⟨k2, k⟩⟩
  · exact .inl (by omega)
  · exact .inl (by omega)
  · exact .inl (by omega)
  · exact .inl (by omega)
  · exact .inr ⟨by omega, .inl (by omega)⟩
  · exact .inr ⟨by omega, .inl (by omega)⟩
  · exact .inl (by omega)
  · exact .inr ⟨by omega, .inl (by omega)⟩
  · exact .inr ⟨by omega, .inr ⟨by omega, cb_trans _ _ _ h k⟩⟩

theorem ltE_irrefl (x : Ed) : ¬ ltE x x := fun h => by
  have := cmpE_neg.2 h
  rw [cmpE_self] at this
  omega

theorem ltE_total (x y : Ed) : ltE x y ∨ x = y ∨ ltE y x := by
  by_cases h : cmpE x y < 0
  · exact .inl (cmpE_neg.1 h)
  · by_cases h0 : cmpE x y = 0
    · exact .inr (.inl (cmpE_eq h0))
    · exact .inr (.inr (cmpE_neg.1 (by rw [cmpE_anti]; omega)))

theorem swoE : SWO (ltOf cmpE) where
  irrefl x := by unfold ltOf; rw [cmpE_self]; rfl
  trans x y z h k := by
    unfold ltOf at *
    rw [decide_eq_true_iff] at *
    exact cmpE_neg.2 (ltE_trans (cmpE_neg.1 h) (cmpE_neg.1 k))
  ntrans x y z h k := by
    unfold ltOf at *
    rw [decide_eq_false_iff_not] at *
    intro hxz
    rw [cmpE_neg] at *
    rcases ltE_total y x with h' | h' | h'
    · exact k (ltE_trans h' hxz)
    · subst h'; exact k hxz
    · exact h h'

/-- sorted lists without doubles that have the same members are the same -/
theorem sorted_unique : ∀ (a b : List Ed), a.Pairwise ltE → b.Pairwise ltE → (∀ x, x ∈ a ↔ x ∈ b) → a = b
  | [], [], _, _, _ => rfl
  | [], y :: b, _, _, h => by have := (h y).2 (by simp); simp at this
  | x :: a, [], _, _, h => by have := (h x).1 (by simp); simp at this
  | x :: a, y :: b, ha, hb, h => by
    rw [List.pairwise_cons] at ha hb
    have e : x = y := by
      have h1 := (h x).1 (by simp)
      have h2 := (h y).2 (by simp)
      rw [List.mem_cons] at h1 h2
      rcases h1 with h1 | h1
      · exact h1
      · rcases h2 with h2 | h2
        · exact h2.symm
        · exact absurd (ltE_trans (ha.1 y h2) (hb.1 x h1)) (ltE_irrefl x)
    subst e
    congr 1
    refine sorted_unique a b ha.2 hb.2 fun z => ?_
    constructor
    · intro hz
      have := (h z).1 (by simp [hz])
      rw [List.mem_cons] at this
      rcases this with e | this
      · subst e; exact absurd (ha.1 z hz) (ltE_irrefl z)
      · exact this
    · intro hz
      have := (h z).2 (by simp [hz])
      rw [List.mem_cons] at this
      rcases this with e | this
      · subst e; exact absurd (hb.1 z hz) (ltE_irrefl z)
      · exact this

/-- an edit laid into a sorted list, unless it is there -/
def insE (x : Ed) : List Ed → List Ed
  | [] => [x]
  | y :: l => if cmpE x y < 0 then x :: y :: l else if cmpE x y = 0 then y :: l else y :: insE x l

theorem mem_insE (x z : Ed) : ∀ l, z ∈ insE x l ↔ z = x ∨ z ∈ l
  | [] => by simp [insE]
  | y :: l => by
    unfold insE
    by_cases h : cmpE x y < 0
    · rw [if_pos h]; simp
    · rw [if_neg h]
      by_cases h0 : cmpE x y = 0
      · rw [if_pos h0]
        have := cmpE_eq h0
        subst this
        simp
      · rw [if_neg h0]
        simp only [List.mem_cons, mem_insE x z l]
        constructor
        · rintro (h | h | h) <;> simp [h]
        · rintro (h | h | h) <;> simp [h]

theorem sorted_insE (x : Ed) : ∀ l, l.Pairwise ltE → (insE x l).Pairwise ltE
  | [], _ => by simp [insE]
  | y :: l, h => by
    unfold insE
    by_cases hx : cmpE x y < 0
    · rw [if_pos hx]
      have h1 := cmpE_neg.1 hx
      rw [List.pairwise_cons]
      refine ⟨fun z hz => ?_, h⟩
      rw [List.mem_cons] at hz
      rcases hz with rfl | hz
      · exact h1
      · exact ltE_trans h1 ((List.pairwise_cons.1 h).1 z hz)
    · rw [if_neg hx]
      by_cases h0 : cmpE x y = 0
      · rw [if_pos h0]; exact h
      · rw [if_neg h0]
        rw [List.pairwise_cons] at h ⊢
        refine ⟨fun z hz => ?_, sorted_insE x l h.2⟩
        rw [mem_insE] at hz
        rcases hz with rfl | hz
        · rcases ltE_total y z with h' | h' | h'
          · exact h'
          · subst h'; exact absurd (cmpE_self y) h0
          · exact absurd (cmpE_neg.2 h') hx
        · exact h.1 z hz

/-- edits in order, each once -/
def ordF (l : List Ed) : List Ed := l.foldr insE []

theorem length_insE (x : Ed) : ∀ l, (insE x l).length ≤ l.length + 1
  | [] => by simp [insE]
  | y :: l => by
    unfold insE
    have := length_insE x l
    split
    · simp
    · split
      · simp
      · simp; omega

theorem length_ordF : ∀ l, (ordF l).length ≤ l.length
  | [] => Nat.le_refl _
  | y :: l => by
    have h1 := length_insE y (ordF l)
    have h2 := length_ordF l
    show (insE y (ordF l)).length ≤ _
    simp only [List.length_cons]
    omega

theorem mem_ordF (x : Ed) : ∀ l, x ∈ ordF l ↔ x ∈ l
  | [] => by simp [ordF]
  | y :: l => by
    show x ∈ insE y (ordF l) ↔ _
    rw [mem_insE, mem_ordF x l]; simp

theorem sorted_ordF : ∀ l, (ordF l).Pairwise ltE
  | [] => List.Pairwise.nil
  | y :: l => sorted_insE y _ (sorted_ordF l)

theorem ordF_of_sorted {l : List Ed} (h : l.Pairwise ltE) {r : List Ed} (hm : ∀ x, x ∈ l ↔ x ∈ r) : l = ordF r :=
  sorted_unique _ _ h (sorted_ordF r) fun x => (hm x).trans (mem_ordF x r).symm

/-- doubles that stand side by side, once -/
def compE : List Ed → List Ed
  | [] => []
  | [x] => [x]
  | x :: y :: l => if x = y then compE (y :: l) else x :: compE (y :: l)

theorem mem_compE (z : Ed) : ∀ l, z ∈ compE l ↔ z ∈ l
  | [] => by simp [compE]
  | [x] => by simp [compE]
  | x :: y :: l => by
    unfold compE
    by_cases h : x = y
    · rw [if_pos h, mem_compE z (y :: l)]; subst h; simp
    · rw [if_neg h, List.mem_cons, mem_compE z (y :: l)]; simp

theorem sorted_compE : ∀ l : List Ed, l.Pairwise (fun a b => ¬ ltE b a) → (compE l).Pairwise ltE
  | [], _ => List.Pairwise.nil
  | [x], _ => by simp [compE]
  | x :: y :: l, h => by
    unfold compE
    have ih := sorted_compE (y :: l) (List.pairwise_cons.1 h).2
    by_cases hxy : x = y
    · rw [if_pos hxy]; exact ih
    · rw [if_neg hxy, List.pairwise_cons]
      refine ⟨fun z hz => ?_, ih⟩
      rw [mem_compE] at hz
      rw [List.pairwise_cons] at h
      rcases ltE_total x z with h' | h' | h'
      · exact h'
      · subst h'
        rw [List.mem_cons] at hz
        rcases hz with hz | hz
        · exact absurd hz hxy
        · rcases ltE_total x y with k | k | k
          · exact absurd k ((List.pairwise_cons.1 h.2).1 x hz)
          · exact absurd k hxy
          · exact absurd k (h.1 y (by simp))
      · exact absurd h' (h.1 z hz)

end Go.Proofs.YtgpmodbndngcoaaDoor
