/- Plain lemmas on the order of edits: the comparison is a strict total order; sorted lists without doubles are unique. The document's order of edits. -/
import Derived.Test.YtihnafocjognaaaGreatDoorEd
import Derived.Test.YtihnafocjognaaaGreatDoorShelf
import Derived.StillTailTactics
import Derived.Shelf.SlSortCmp.InsertionK

namespace Go.Proofs.YtihnafocjognaaaGreatDoor
open Go.RowKit

/-- cmp.Compare over integers -/
def cmpI (a b : Int) : Int := if a < b then -1 else if b < a then 1 else 0

set_option maxHeartbeats 400000 in
theorem cmpCompare_any (a b : Int) (w : World) :
    Calls Tryz.prog 82 #[.int .i64 a, .int .i64 b] w fun e w' => e = .returned (.int .i64 (cmpI a b)) ∧ w' = w := by
  by_cases h1 : a < b
  · go_enter Tryz.func82, Tryz.ntmps82
    go_wp2
    go_ret
    exact ⟨ret_int (by simp [cmpI, h1]), rfl⟩
  · by_cases h2 : b < a
    · go_enter Tryz.func82, Tryz.ntmps82
      go_wp2
      go_ret
      exact ⟨ret_int (by simp [cmpI, h1, h2]), rfl⟩
    · go_enter Tryz.func82, Tryz.ntmps82
      go_wp2
      go_ret
      exact ⟨ret_int (by unfold cmpI; rw [if_neg (by omega), if_neg (by omega)]), rfl⟩

/-- cmp.Or over three integers -/
def or3 (x y z : Int) : Int := if x ≠ 0 then x else if y ≠ 0 then y else z

set_option maxHeartbeats 400000 in
theorem cmpOr_any (b : Nat) (x y z : Int) (w : World) (h0 : w.cell? ⟨b, 0, none⟩ = some (.int .i64 x)) (h1 : w.cell? ⟨b, 1, none⟩ = some (.int .i64 y)) (h2 : w.cell? ⟨b, 2, none⟩ = some (.int .i64 z)) :
    Calls Tryz.prog 81 #[.slice (some ⟨b, 0, none⟩) 3 3] w fun e w' => e = .returned (.int .i64 (or3 x y z)) ∧ w' = w := by
  go_enter Tryz.func81, Tryz.ntmps81
  go_wp2
  go_loop [8] (fun i => ∃ k : Nat, k ≤ 3 ∧ i = .int .i64 k ∧ (0 < k → x = 0) ∧ (1 < k → y = 0) ∧ (2 < k → z = 0)) (fun i => 3 - (intOf i).toNat)
  case atStart => exact ⟨0, by omega, rfl, by omega, by omega, by omega⟩
  case round =>
    obtain ⟨k, hk, rfl, hx, hy, hz⟩ := hrel
    have HX := Lib.hid hx
    have HY := Lib.hid hy
    have HZ := Lib.hid hz
    clear hx hy hz
    rcases (by omega : k = 0 ∨ k = 1 ∨ k = 2 ∨ k = 3) with rfl | rfl | rfl | rfl
    · by_cases hx : x = 0
      · have hxb : (x != 0) = false := by simp [hx]
        have HX := Lib.hid hx
        clear hx
        go_wp2
        go_round
        case rel => exact ⟨1, by omega, by go_num, fun _ => HX.out, by omega, by omega⟩
        case measure => simp [intOf]
      · have hxb : (x != 0) = true := by simp [hx]
        go_wp2
        go_ret
        exact ⟨ret_int (by simp [or3, hx]), rfl⟩
    · by_cases hx : y = 0
      · have hxb : (y != 0) = false := by simp [hx]
        have HY := Lib.hid hx
        clear hx
        go_wp2
        go_round
        case rel => exact ⟨2, by omega, by go_num, fun _ => HX.out (by omega), fun _ => HY.out, by omega⟩
        case measure => simp [intOf]
      · have hxb : (y != 0) = true := by simp [hx]
        go_wp2
        go_ret
        exact ⟨ret_int (by simp [or3, hx, HX.out (by omega)]), rfl⟩
    · by_cases hx : z = 0
      · have hxb : (z != 0) = false := by simp [hx]
        have HZ := Lib.hid hx
        clear hx
        go_wp2
        go_round
        case rel => exact ⟨3, by omega, by go_num, fun _ => HX.out (by omega), fun _ => HY.out (by omega), fun _ => HZ.out⟩
        case measure => simp [intOf]
      · have hxb : (z != 0) = true := by simp [hx]
        go_wp2
        go_ret
        exact ⟨ret_int (by simp [or3, HX.out (by omega), HY.out (by omega)]), rfl⟩
    · go_wp2
      go_ret
      exact ⟨ret_int (by simp [or3, HX.out (by omega), HY.out (by omega), HZ.out (by omega)]), rfl⟩

end Go.Proofs.YtihnafocjognaaaGreatDoor

namespace Go.Proofs.YtihnafocjognaaaGreatDoor
open Go.RowKit Go.Sort

/-- the order of edits, as a number -/
def cmpE (x y : Ed) : Int := or3 (cmpI x.f y.f) (cmpI x.t y.t) (Lib.compareBytes x.s.data.toList y.s.data.toList)

set_option maxHeartbeats 400000 in
set_option maxRecDepth 100000 in
theorem compareEdits_any (x y : Ed) (w : World) :
    Calls Tryz.prog 70 #[.agg #[.int .i64 x.f, .int .i64 x.t, .string x.s], .agg #[.int .i64 y.f, .int .i64 y.t, .string y.s]] w fun e w' => e = .returned (.int .i64 (cmpE x y)) ∧ ∃ q os, w' = grow (w.drewN q) os := by
  have h1 := fun W => cmpCompare_any x.f y.f W
  have h2 := fun W => cmpCompare_any x.t y.t W
  have h3 := fun W => Tryz.strings_Compare x.s y.s W
  unfold cmpE
  generalize cmpI x.f y.f = a at *
  generalize cmpI x.t y.t = b at *
  generalize Lib.compareBytes x.s.data.toList y.s.data.toList = c at *
  have H1 := Lib.hid h1
  have H2 := Lib.hid h2
  have H3 := Lib.hid h3
  clear h1 h2 h3
  go_enter Tryz.func70, Tryz.ntmps70
  go_wp2_with fail
  obtain ⟨W, hW⟩ : ∃ W : World, W = (w.alloc (Obj.cells #[Value.int IntKind.i64 x.f, Value.int IntKind.i64 x.t, Value.string x.s] 24)).alloc (Obj.cells #[Value.int IntKind.i64 y.f, Value.int IntKind.i64 y.t, Value.string y.s] 24) := ⟨_, rfl⟩
  have c0 : W.drew.cell? ⟨w.heap.size, 0, none⟩ = some (.int .i64 x.f) := by subst hW; go_simp
  have c1 : W.drew.cell? ⟨w.heap.size, 1, none⟩ = some (.int .i64 x.t) := by subst hW; go_simp
  have c2 : W.drew.cell? ⟨w.heap.size, 2, none⟩ = some (.string x.s) := by subst hW; go_simp
  have d0 : W.drew.cell? ⟨w.heap.size + 1, 0, none⟩ = some (.int .i64 y.f) := by subst hW; go_simp
  have d1 : W.drew.cell? ⟨w.heap.size + 1, 1, none⟩ = some (.int .i64 y.t) := by subst hW; go_simp
  have d2 : W.drew.cell? ⟨w.heap.size + 1, 2, none⟩ = some (.string y.s) := by subst hW; go_simp
  have hG : ∀ os, grow W.drew os = grow (w.drewN 1) (#[Obj.cells #[Value.int IntKind.i64 x.f, Value.int IntKind.i64 x.t, Value.string x.s] 24, Obj.cells #[Value.int IntKind.i64 y.f, Value.int IntKind.i64 y.t, Value.string y.s] 24] ++ os) := by
    intro os; subst hW; rw [alloc_eq_grow, alloc_eq_grow, grow_grow, drew_grow, grow_grow]; rfl
  rw [← hW]
  refine wp_region_still_tail 15 (by kernel_rfl) (by kernel_rfl) ?_
  simp only [List.take_succ_cons, List.take_zero, List.drop_succ_cons, List.drop_zero]
  clear hW
  change wpStill _ _ W.drew (fun a' => wpList _ _ _ _ a' W.drew) _ _
  generalize W.drew = W2 at *
  repeat still_step
  still_call (H1.out _)
  repeat still_step
  still_call (H2.out _)
  repeat still_step
  still_call (H3.out _)
  repeat still_step
  refine wpStill_nil ?_
  have HG := Lib.hid hG
  clear hG H1 H2 H3
  go_wp2_with (go_at_call 81; refine (cmpOr_any W2.heap.size a b c _ (by go_simp) (by go_simp) (by go_simp)).mono ?_; rintro e w' ⟨rfl, rfl⟩)
  go_ret
  exact ⟨rfl, 1, _, by rw [alloc_eq_grow]; exact HG.out _⟩

theorem cmpLays (blk off size : Nat) (w : World) : CmpLays Tryz.prog 70 #[] Ed.cells 3 cmpE blk off size w :=
  fun _ _ _ _ x y => compareEdits_any x y _

end Go.Proofs.YtihnafocjognaaaGreatDoor

namespace Go.Proofs.YtihnafocjognaaaGreatDoor
open Go.RowKit Go.Sort Go.Lib

theorem cb_self : ∀ a : List UInt8, compareBytes a a = 0
  | [] => rfl
  | a :: l => by rw [compareBytes, if_neg (UInt8.lt_irrefl a), if_neg (UInt8.lt_irrefl a), cb_self l]

theorem cb_anti : ∀ a b : List UInt8, compareBytes b a = - compareBytes a b
  | [], [] => rfl
  | [], _ :: _ => rfl
  | _ :: _, [] => rfl
  | a :: l, b :: r => by
    simp only [compareBytes]
    have ih := cb_anti l r
    by_cases h1 : a < b
    · have h2 : ¬ b < a := fun h => UInt8.lt_irrefl a (UInt8.lt_trans h1 h)
      simp [h1, h2]
    · by_cases h2 : b < a
      · simp [h1, h2]
      · simp [h1, h2, ih]

theorem u8_eq {a b : UInt8} (h1 : ¬ a < b) (h2 : ¬ b < a) : a = b := by
  rw [UInt8.lt_iff_toNat_lt] at h1 h2
  exact UInt8.toNat_inj.1 (by omega)

theorem cb_eq : ∀ a b : List UInt8, compareBytes a b = 0 → a = b
  | [], [], _ => rfl
  | [], _ :: _, h => by simp [compareBytes] at h
  | _ :: _, [], h => by simp [compareBytes] at h
  | a :: l, b :: r, h => by
    simp only [compareBytes] at h
    by_cases h1 : a < b
    · simp [h1] at h
    · by_cases h2 : b < a
      · simp [h1, h2] at h
      · simp only [h1, h2, if_false] at h
        rw [u8_eq h1 h2, cb_eq l r h]

theorem cb_trans : ∀ a b c : List UInt8, compareBytes a b < 0 → compareBytes b c < 0 → compareBytes a c < 0
  | [], [], _, h, _ => by simp [compareBytes] at h
  | [], _ :: _, [], _, h => by simp [compareBytes] at h
  | [], _ :: _, _ :: _, _, _ => by simp [compareBytes]
  | _ :: _, [], _, h, _ => by simp [compareBytes] at h
  | _ :: _, _ :: _, [], _, h => by simp [compareBytes] at h
  | a :: l, b :: r, c :: s, h, k => by
    simp only [compareBytes] at h k ⊢
    simp only [UInt8.lt_iff_toNat_lt] at h k ⊢
    by_cases h1 : a.toNat < b.toNat
    · by_cases k1 : b.toNat < c.toNat
      · rw [if_pos (by omega)]; omega
      · by_cases k2 : c.toNat < b.toNat
        · simp [k1, k2] at k
        · rw [if_pos (by omega)]; omega
    · by_cases h2 : b.toNat < a.toNat
      · simp [h1, h2] at h
      · by_cases k1 : b.toNat < c.toNat
        · rw [if_pos (by omega)]; omega
        · by_cases k2 : c.toNat < b.toNat
          · simp [k1, k2] at k
          · simp only [h1, h2, k1, k2, if_false] at h k
            rw [if_neg (by omega), if_neg (by omega)]
            exact cb_trans l r s h k

theorem ba_ext {a b : ByteArray} (h : a.data.toList = b.data.toList) : a = b := by
  cases a; cases b; simp_all [Array.toList_inj]

theorem cmpE_self (x : Ed) : cmpE x x = 0 := by simp [cmpE, or3, cmpI, cb_self]

theorem cmpI_anti (a b : Int) : cmpI b a = - cmpI a b := by
  unfold cmpI
  by_cases h1 : a < b
  · rw [if_neg (by omega), if_pos h1, if_pos h1]; rfl
  · by_cases h2 : b < a
    · rw [if_pos h2, if_neg h1, if_pos h2]
    · rw [if_neg h2, if_neg h1, if_neg h1, if_neg h2]; rfl

theorem cmpI_zero {a b : Int} : cmpI a b = 0 ↔ a = b := by
  unfold cmpI
  by_cases h1 : a < b
  · rw [if_pos h1]; omega
  · by_cases h2 : b < a
    · rw [if_neg h1, if_pos h2]; omega
    · rw [if_neg h1, if_neg h2]; omega

theorem cmpI_neg {a b : Int} : cmpI a b < 0 ↔ a < b := by
  unfold cmpI
  by_cases h1 : a < b
  · rw [if_pos h1]; omega
  · by_cases h2 : b < a
    · rw [if_neg h1, if_pos h2]; omega
    · rw [if_neg h1, if_neg h2]; omega

theorem cmpE_anti (x y : Ed) : cmpE y x = - cmpE x y := by
  unfold cmpE
  rw [cmpI_anti x.f y.f, cmpI_anti x.t y.t, cb_anti x.s.data.toList y.s.data.toList]
  generalize cmpI x.f y.f = a
  generalize cmpI x.t y.t = b
  unfold or3
  by_cases ha : a = 0
  · by_cases hb : b = 0
    · simp [ha, hb]
    · simp [ha, hb]
  · simp [ha]

theorem cmpE_eq {x y : Ed} (h : cmpE x y = 0) : x = y := by
  unfold cmpE or3 at h
  by_cases ha : cmpI x.f y.f = 0
  · by_cases hb : cmpI x.t y.t = 0
    · simp [ha, hb] at h
      have h1 := cmpI_zero.1 ha
      have h2 := cmpI_zero.1 hb
      have h3 := ba_ext (cb_eq _ _ h)
      cases x; cases y; simp_all
    · simp [ha, hb] at h
  · simp [ha] at h

/-- the order as a relation -/
def ltE (x y : Ed) : Prop := x.f < y.f ∨ (x.f = y.f ∧ (x.t < y.t ∨ (x.t = y.t ∧ compareBytes x.s.data.toList y.s.data.toList < 0)))

theorem cmpE_neg {x y : Ed} : cmpE x y < 0 ↔ ltE x y := by
  unfold cmpE or3 ltE
  rcases Int.lt_trichotomy x.f y.f with h | h | h
  · have e := cmpI_neg.2 h
    rw [if_pos (by omega)]
    exact ⟨fun _ => .inl h, fun _ => e⟩
  · rw [if_neg (by rw [cmpI_zero.2 h]; simp)]
    rcases Int.lt_trichotomy x.t y.t with k | k | k
    · have e := cmpI_neg.2 k
      rw [if_pos (by omega)]
      exact ⟨fun _ => .inr ⟨h, .inl k⟩, fun _ => e⟩
    · rw [if_neg (by rw [cmpI_zero.2 k]; simp)]
      constructor
      · intro g; exact .inr ⟨h, .inr ⟨k, g⟩⟩
      · rintro (g | ⟨_, g | ⟨_, g⟩⟩)
        · omega
        · omega
        · exact g
    · have e : ¬ cmpI x.t y.t < 0 := fun g => by have := cmpI_neg.1 g; omega
      have e0 : cmpI x.t y.t ≠ 0 := fun g => by have := cmpI_zero.1 g; omega
      rw [if_pos e0]
      constructor
      · intro g; exact absurd g e
      · rintro (g | ⟨_, g | ⟨_, g⟩⟩) <;> omega
  · have e : ¬ cmpI x.f y.f < 0 := fun g => by have := cmpI_neg.1 g; omega
    have e0 : cmpI x.f y.f ≠ 0 := fun g => by have := cmpI_zero.1 g; omega
    rw [if_pos e0]
    constructor
    · intro g; exact absurd g e
    · rintro (g | ⟨_, g | ⟨_, g⟩⟩) <;> omega

theorem ltE_trans {x y z : Ed} (h : ltE x y) (k : ltE y z) : ltE x z := by
  unfold ltE at *
  rcases h with h | ⟨h1, h | ⟨h2, h⟩⟩ <;> rcases k with k | ⟨k1, k | ⟨k2, k⟩⟩
  · exact .inl (by omega)
  · exact .inl (by omega)
  · exact .inl (by omega)
  · exact .inl (by omega)
  · exact .inr ⟨by omega, .inl (by omega)⟩
  · exact .inr ⟨by omega, .inl (by omega)⟩
  · exact .inl (by omega)
  · exact .inr ⟨by omega, .inl (by omega)⟩
  · exact .inr ⟨by omega, .inr ⟨by omega, cb_trans _ _ _ h k⟩⟩

theorem ltE_irrefl (x : Ed) : ¬ ltE x x := fun h => by
  have := cmpE_neg.2 h
  rw [cmpE_self] at this
  omega

theorem ltE_total (x y : Ed) : ltE x y ∨ x = y ∨ ltE y x := by
  by_cases h : cmpE x y < 0
  · exact .inl (cmpE_neg.1 h)
  · by_cases h0 : cmpE x y = 0
    · exact .inr (.inl (cmpE_eq h0))
    · exact .inr (.inr (cmpE_neg.1 (by rw [cmpE_anti]; omega)))

theorem swoE : SWO (ltOf cmpE) where
  irrefl x := by unfold ltOf; rw [cmpE_self]; rfl
  trans x y z h k := by
    unfold ltOf at *
    rw [decide_eq_true_iff] at *
    exact cmpE_neg.2 (ltE_trans (cmpE_neg.1 h) (cmpE_neg.1 k))
  ntrans x y z h k := by
    unfold ltOf at *
    rw [decide_eq_false_iff_not] at *
    intro hxz
    rw [cmpE_neg] at *
    rcases ltE_total y x with h' | h' | h'
    · exact k (ltE_trans h' hxz)
    · subst h'; exact k hxz
    · exact h h'

/-- sorted lists without doubles that have the same members are the same -/
theorem sorted_unique : ∀ (a b : List Ed), a.Pairwise ltE → b.Pairwise ltE → (∀ x, x ∈ a ↔ x ∈ b) → a = b
  | [], [], _, _, _ => rfl
  | [], y :: b, _, _, h => by have := (h y).2 (by simp); simp at this
  | x :: a, [], _, _, h => by have := (h x).1 (by simp); simp at this
  | x :: a, y :: b, ha, hb, h => by
    rw [List.pairwise_cons] at ha hb
    have e : x = y := by
      have h1 := (h x).1 (by simp)
      have h2 := (h y).2 (by simp)
      rw [List.mem_cons] at h1 h2
      rcases h1 with h1 | h1
      · exact h1
      · rcases h2 with h2 | h2
        · exact h2.symm
        · exact absurd (ltE_trans (ha.1 y h2) (hb.1 x h1)) (ltE_irrefl x)
    subst e
    congr 1
    refine sorted_unique a b ha.2 hb.2 fun z => ?_
    constructor
    · intro hz
      have := (h z).1 (by simp [hz])
      rw [List.mem_cons] at this
      rcases this with e | this
      · subst e; exact absurd (ha.1 z hz) (ltE_irrefl z)
      · exact this
    · intro hz
      have := (h z).2 (by simp [hz])
      rw [List.mem_cons] at this
      rcases this with e | this
      · subst e; exact absurd (hb.1 z hz) (ltE_irrefl z)
      · exact this

/-- an edit laid into a sorted list, unless it is there -/
def insE (x : Ed) : List Ed → List Ed
  | [] => [x]
  | y :: l => if cmpE x y < 0 then x :: y :: l else if cmpE x y = 0 then y :: l else y :: insE x l

theorem mem_insE (x z : Ed) : ∀ l, z ∈ insE x l ↔ z = x ∨ z ∈ l
  | [] => by simp [insE]
  | y :: l => by
    unfold insE
    by_cases h : cmpE x y < 0
    · rw [if_pos h]; simp
    · rw [if_neg h]
      by_cases h0 : cmpE x y = 0
      · rw [if_pos h0]
        have := cmpE_eq h0
        subst this
        simp
      · rw [if_neg h0]
        simp only [List.mem_cons, mem_insE x z l]
        constructor
        · rintro (h | h | h) <;> simp [h]
        · rintro (h | h | h) <;> simp [h]

theorem sorted_insE (x : Ed) : ∀ l, l.Pairwise ltE → (insE x l).Pairwise ltE
  | [], _ => by simp [insE]
  | y :: l, h => by
    unfold insE
    by_cases hx : cmpE x y < 0
    · rw [if_pos hx]
      have h1 := cmpE_neg.1 hx
      rw [List.pairwise_cons]
      refine ⟨fun z hz => ?_, h⟩
      rw [List.mem_cons] at hz
      rcases hz with rfl | hz
      · exact h1
      · exact ltE_trans h1 ((List.pairwise_cons.1 h).1 z hz)
    · rw [if_neg hx]
      by_cases h0 : cmpE x y = 0
      · rw [if_pos h0]; exact h
      · rw [if_neg h0]
        rw [List.pairwise_cons] at h ⊢
        refine ⟨fun z hz => ?_, sorted_insE x l h.2⟩
        rw [mem_insE] at hz
        rcases hz with rfl | hz
        · rcases ltE_total y z with h' | h' | h'
          · exact h'
          · subst h'; exact absurd (cmpE_self y) h0
          · exact absurd (cmpE_neg.2 h') hx
        · exact h.1 z hz

/-- edits in order, each once -/
def ordF (l : List Ed) : List Ed := l.foldr insE []

theorem length_insE (x : Ed) : ∀ l, (insE x l).length ≤ l.length + 1
  | [] => by simp [insE]
  | y :: l => by
    unfold insE
    have := length_insE x l
    split
    · simp
    · split
      · simp
      · simp; omega

theorem length_ordF : ∀ l, (ordF l).length ≤ l.length
  | [] => Nat.le_refl _
  | y :: l => by
    have h1 := length_insE y (ordF l)
    have h2 := length_ordF l
    show (insE y (ordF l)).length ≤ _
    simp only [List.length_cons]
    omega

theorem mem_ordF (x : Ed) : ∀ l, x ∈ ordF l ↔ x ∈ l
  | [] => by simp [ordF]
  | y :: l => by
    show x ∈ insE y (ordF l) ↔ _
    rw [mem_insE, mem_ordF x l]; simp

theorem sorted_ordF : ∀ l, (ordF l).Pairwise ltE
  | [] => List.Pairwise.nil
  | y :: l => sorted_insE y _ (sorted_ordF l)

theorem ordF_of_sorted {l : List Ed} (h : l.Pairwise ltE) {r : List Ed} (hm : ∀ x, x ∈ l ↔ x ∈ r) : l = ordF r :=
  sorted_unique _ _ h (sorted_ordF r) fun x => (hm x).trans (mem_ordF x r).symm

/-- doubles that stand side by side, once -/
def compE : List Ed → List Ed
  | [] => []
  | [x] => [x]
  | x :: y :: l => if x = y then compE (y :: l) else x :: compE (y :: l)

theorem mem_compE (z : Ed) : ∀ l, z ∈ compE l ↔ z ∈ l
  | [] => by simp [compE]
  | [x] => by simp [compE]
  | x :: y :: l => by
    unfold compE
    by_cases h : x = y
    · rw [if_pos h, mem_compE z (y :: l)]; subst h; simp
    · rw [if_neg h, List.mem_cons, mem_compE z (y :: l)]; simp

theorem sorted_compE : ∀ l : List Ed, l.Pairwise (fun a b => ¬ ltE b a) → (compE l).Pairwise ltE
  | [], _ => List.Pairwise.nil
  | [x], _ => by simp [compE]
  | x :: y :: l, h => by
    unfold compE
    have ih := sorted_compE (y :: l) (List.pairwise_cons.1 h).2
    by_cases hxy : x = y
    · rw [if_pos hxy]; exact ih
    · rw [if_neg hxy, List.pairwise_cons]
      refine ⟨fun z hz => ?_, ih⟩
      rw [mem_compE] at hz
      rw [List.pairwise_cons] at h
      rcases ltE_total x z with h' | h' | h'
      · exact h'
      · subst h'
        rw [List.mem_cons] at hz
        rcases hz with hz | hz
        · exact absurd hz hxy
        · rcases ltE_total x y with k | k | k
          · exact absurd k ((List.pairwise_cons.1 h.2).1 x hz)
          · exact absurd k hxy
          · exact absurd k (h.1 y (by simp))
      · exact absurd h' (h.1 z hz)

end Go.Proofs.YtihnafocjognaaaGreatDoor

namespace Go.Proofs.YtihnafocjognaaaGreatDoor
open Go.RowKit Go.Maps

theorem bytesLess_is : ∀ a b : List UInt8, Op.bytesLess a b = decide (Lib.compareBytes a b < 0)
  | [], [] => by simp [Op.bytesLess, Lib.compareBytes]
  | [], _ :: _ => by simp [Op.bytesLess, Lib.compareBytes]
  | _ :: _, [] => by simp [Op.bytesLess, Lib.compareBytes]
  | a :: x, b :: y => by
    have ih := bytesLess_is x y
    rw [Op.bytesLess, Lib.compareBytes, ih]
    by_cases h1 : a < b
    · simp [h1]
    · by_cases h2 : b < a
      · have h3 : (a == b) = false := by
          cases e : a == b
          · rfl
          · rw [eq_of_beq e] at h2; exact absurd h2 (UInt8.lt_irrefl _)
        simp [h1, h2, h3]
      · have h3 : a = b := u8_eq h1 h2
        subst h3
        simp [h1]

set_option maxHeartbeats 1000000 in
set_option maxRecDepth 100000 in
theorem before_any (x y : Ed) (w : World) :
    Calls Tryz.prog 58 #[.agg #[.int .i64 x.f, .int .i64 x.t, .string x.s], .agg #[.int .i64 y.f, .int .i64 y.t, .string y.s]] w fun e w' => e = .returned (.bool (decide (cmpE x y < 0))) ∧ Below w.heap.size w w' := by
  have hd : decide (cmpE x y < 0) = if x.f = y.f then (if x.t = y.t then Op.bytesLess x.s.toList y.s.toList else decide (x.t < y.t)) else decide (x.f < y.f) := by
    have h := @cmpE_neg x y
    by_cases p : x.f = y.f
    · rw [if_pos p]
      by_cases q : x.t = y.t
      · rw [if_pos q, bytesLess_is, ByteArray.toList_eq, ByteArray.toList_eq, decide_eq_decide, h]
        unfold ltE
        constructor
        · rintro (g | ⟨_, g | ⟨_, g⟩⟩)
          · omega
          · omega
          · exact g
        · exact fun g => .inr ⟨p, .inr ⟨q, g⟩⟩
      · rw [if_neg q, decide_eq_decide, h]
        unfold ltE
        omega
    · rw [if_neg p, decide_eq_decide, h]
      unfold ltE
      omega
  rw [hd]
  clear hd
  obtain ⟨f, t, s⟩ := x
  obtain ⟨g, u, r⟩ := y
  simp only
  by_cases p : f = g
  · by_cases q : t = u
    · subst p q
      rw [if_pos rfl, if_pos rfl]
      go_enter Tryz.func58, Tryz.ntmps58
      go_wp2
      go_ret
      exact ⟨rfl, ((Below.refl _ w).alloc (Nat.le_refl _) _).alloc (by simp) _⟩
    · subst p
      rw [if_pos rfl, if_neg q]
      go_enter Tryz.func58, Tryz.ntmps58
      go_wp2
      go_ret
      exact ⟨rfl, ((Below.refl _ w).alloc (Nat.le_refl _) _).alloc (by simp) _⟩
  · rw [if_neg p]
    go_enter Tryz.func58, Tryz.ntmps58
    go_wp2
    go_ret
    exact ⟨rfl, ((Below.refl _ w).alloc (Nat.le_refl _) _).alloc (by simp) _⟩

end Go.Proofs.YtihnafocjognaaaGreatDoor
