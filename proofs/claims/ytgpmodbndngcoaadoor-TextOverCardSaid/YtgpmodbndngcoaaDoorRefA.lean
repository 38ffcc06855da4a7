/- The document's small functions over edits: touch, before, EqEdits; the program's Fine. -/
import Derived.Test.YtgpmodbndngcoaaDoorApply
import Derived.RegionTactic
namespace Go.Proofs.YtgpmodbndngcoaaDoor
open Go.RowKit Go.Maps

/-- whether two edits touch, as the document says it -/
def touchF (x y : Ed) : Bool :=
  if x.f = x.t ∧ y.f = y.t then decide (x.f = y.f) else if x.f = x.t then decide (x.f > y.f ∧ x.f < y.t) else if y.f = y.t then decide (y.f > x.f ∧ y.f < x.t) else decide (x.f < y.t ∧ y.f < x.t)

def Ed.val (x : Ed) : Value := .agg #[.int .i64 x.f, .int .i64 x.t, .string x.s]

set_option maxHeartbeats 1000000 in
set_option maxRecDepth 100000 in
theorem touch_any (x y : Ed) (w : World) : Calls Tryd.prog 60 #[x.val, y.val] w fun e w' => e = .returned (.bool (touchF x y)) ∧ Below w.heap.size w w' := by
  obtain ⟨f, t, s⟩ := x
  obtain ⟨g, u, r⟩ := y
  unfold touchF Ed.val
  simp only
  by_cases p : f = t
  · by_cases q : g = u
    · subst p q
      rw [if_pos ⟨rfl, rfl⟩]
      go_enter Tryd.func60, Tryd.ntmps60
      go_wp2
      go_ret
      exact ⟨ret_bool (by first | rfl | rw [r2] | simp), (by first | exact Below.refl _ _ | exact ((Below.refl _ w).alloc (Nat.le_refl _) _).alloc (by simp) _ | exact (((Below.refl _ w).alloc (Nat.le_refl _) _).alloc (by simp) _).drew)⟩
    · subst p
      rw [if_neg (fun e => q e.2), if_pos rfl]
      go_enter Tryd.func60, Tryd.ntmps60
      by_cases r1 : g < f
      · have r2 : decide (f > g ∧ f < u) = decide (f < u) := by simp [r1]
        go_wp2
        go_ret
        exact ⟨ret_bool (by first | rfl | rw [r2] | simp), (by first | exact Below.refl _ _ | exact ((Below.refl _ w).alloc (Nat.le_refl _) _).alloc (by simp) _ | exact (((Below.refl _ w).alloc (Nat.le_refl _) _).alloc (by simp) _).drew)⟩
      · have r2 : decide (f > g ∧ f < u) = false := by simp; omega
        go_wp2
        go_ret
        exact ⟨ret_bool (by first | rfl | rw [r2] | simp), (by first | exact Below.refl _ _ | exact ((Below.refl _ w).alloc (Nat.le_refl _) _).alloc (by simp) _ | exact (((Below.refl _ w).alloc (Nat.le_refl _) _).alloc (by simp) _).drew)⟩
  · by_cases q : g = u
    · subst q
      rw [if_neg (fun e => p e.1), if_neg p, if_pos rfl]
      go_enter Tryd.func60, Tryd.ntmps60
      by_cases r1 : f < g
      · have r2 : decide (g > f ∧ g < t) = decide (g < t) := by simp [r1]
        go_wp2
        go_ret
        exact ⟨ret_bool (by first | rfl | rw [r2] | simp), (by first | exact Below.refl _ _ | exact ((Below.refl _ w).alloc (Nat.le_refl _) _).alloc (by simp) _ | exact (((Below.refl _ w).alloc (Nat.le_refl _) _).alloc (by simp) _).drew)⟩
      · have r2 : decide (g > f ∧ g < t) = false := by simp; omega
        go_wp2
        go_ret
        exact ⟨ret_bool (by first | rfl | rw [r2] | simp), (by first | exact Below.refl _ _ | exact ((Below.refl _ w).alloc (Nat.le_refl _) _).alloc (by simp) _ | exact (((Below.refl _ w).alloc (Nat.le_refl _) _).alloc (by simp) _).drew)⟩
    · rw [if_neg (fun e => p e.1), if_neg p, if_neg q]
      go_enter Tryd.func60, Tryd.ntmps60
      by_cases r1 : f < u
      · have r2 : decide (f < u ∧ g < t) = decide (g < t) := by simp [r1]
        go_wp2
        go_ret
        exact ⟨ret_bool (by first | rfl | rw [r2] | simp), (by first | exact Below.refl _ _ | exact ((Below.refl _ w).alloc (Nat.le_refl _) _).alloc (by simp) _ | exact (((Below.refl _ w).alloc (Nat.le_refl _) _).alloc (by simp) _).drew)⟩
      · have r2 : decide (f < u ∧ g < t) = false := by simp; omega
        go_wp2
        go_ret
        exact ⟨ret_bool (by first | rfl | rw [r2] | simp), (by first | exact Below.refl _ _ | exact ((Below.refl _ w).alloc (Nat.le_refl _) _).alloc (by simp) _ | exact (((Below.refl _ w).alloc (Nat.le_refl _) _).alloc (by simp) _).drew)⟩

theorem textFine_any (s : ByteArray) (v : Value) (l : List Ed) (w : World) (hs : s.size ≤ 140737488355328) (hl : l.length ≤ 1000000) (h : IsE w v l) :
    Calls Tryd.prog 21 #[.string s, v] w fun e w' => e = .returned (.int .i64 (fineF s.size l)) ∧ Below w.heap.size w w' := by
  have hf := fineEdits_any s v l w hs hl h
  have HF := Lib.hid hf
  clear hf h
  go_enter Tryd.func21, Tryd.ntmps21
  go_wp2_with fail
  refine HF.out.mono ?_
  rintro e w1 ⟨v', rfl, _, hb⟩
  go_wp2
  go_ret
  exact ⟨rfl, hb⟩

end Go.Proofs.YtgpmodbndngcoaaDoor
