/- The document's order of edits. -/
import Derived.Test.YtgpmodbndngcoaaDoorOrd
namespace Go.Proofs.YtgpmodbndngcoaaDoor
open Go.RowKit Go.Maps

theorem bytesLess_is : ∀ a b : List UInt8, Op.bytesLess a b = decide (Lib.compareBytes a b < 0)
  | [], [] => by simp [Op.bytesLess, Lib.compareBytes]
  | [], _ :: _ => by simp [Op.bytesLess, Lib.compareBytes]
  | _ :: _, [] => by simp [Op.bytesLess, Lib.compareBytes]
  | a :: x, b :: y => by
    have ih := bytesLess_is x y
    rw [Op.bytesLess, Lib.compareBytes, ih]
    by_cases h1 : a < b
    · simp [h1]
    · by_cases h2 : b < a
      · have h3 : (a == b) = false := by
          cases e : a == b
          · rfl
          · rw [eq_of_beq e] at h2; exact absurd h2 (UInt8.lt_irrefl _)
        simp [h1, h2, h3]
      · have h3 : a = b := u8_eq h1 h2
        subst h3
        simp [h1]

set_option maxHeartbeats 1000000 in
set_option maxRecDepth 100000 in
theorem before_any (x y : Ed) (w : World) :
    Calls Tryd.prog 96 #[.agg #[.int .i64 x.f, .int .i64 x.t, .string x.s], .agg #[.int .i64 y.f, .int .i64 y.t, .string y.s]] w fun e w' => e = .returned (.bool (decide (cmpE x y < 0))) ∧ Below w.heap.size w w' := by
  have hd : decide (cmpE x y < 0) = if x.f = y.f then (if x.t = y.t then Op.bytesLess x.s.toList y.s.toList else decide (x.t < y.t)) else decide (x.f < y.f) := by
    have h := @cmpE_neg x y
    by_cases p : x.f = y.f
    · rw [if_pos p]
      by_cases q : x.t = y.t
      · rw [if_pos q, bytesLess_is, ByteArray.toList_eq, ByteArray.toList_eq, decide_eq_decide, h]
        unfold ltE
        constructor
        · rintro (g | ⟨_, g | ⟨_, g⟩⟩)
          · omega
          · omega
          · exact g
        · exact fun g => .inr ⟨p, .inr ⟨q, g⟩⟩
      · rw [if_neg q, decide_eq_decide, h]
        unfold ltE
        omega
    · rw [if_neg p, decide_eq_decide, h]
      unfold ltE
      omega
  rw [hd]
  clear hd
  obtain ⟨f, t, s⟩ := x
  obtain ⟨g, u, r⟩ := y
  simp only
  by_cases p : f = g
  · by_cases q : t = u
    · subst p q
      rw [if_pos rfl, if_pos rfl]
      go_enter Tryd.func96, Tryd.ntmps96
      go_wp2
      go_ret
      exact ⟨rfl, ((Below.refl _ w).alloc (Nat.le_refl _) _).alloc (by simp) _⟩
    · subst p
      rw [if_pos rfl, if_neg q]
      go_enter Tryd.func96, Tryd.ntmps96
      go_wp2
      go_ret
      exact ⟨rfl, ((Below.refl _ w).alloc (Nat.le_refl _) _).alloc (by simp) _⟩
  · rw [if_neg p]
    go_enter Tryd.func96, Tryd.ntmps96
    go_wp2
    go_ret
    exact ⟨rfl, ((Below.refl _ w).alloc (Nat.le_refl _) _).alloc (by simp) _⟩

end Go.Proofs.YtgpmodbndngcoaaDoor
