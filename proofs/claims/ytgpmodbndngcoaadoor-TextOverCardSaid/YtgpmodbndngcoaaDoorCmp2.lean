import Derived.Test.YtgpmodbndngcoaaDoorCmp
import Derived.Test.YtgpmodbndngcoaaDoorShelf
import Derived.StillTailTactics
import Derived.Shelf.SlSortCmp.InsertionK
namespace Go.Proofs.YtgpmodbndngcoaaDoor
open Go.RowKit Go.Sort

/-- the order of edits, as a number -/
def cmpE (x y : Ed) : Int := or3 (cmpI x.f y.f) (cmpI x.t y.t) (Lib.compareBytes x.s.data.toList y.s.data.toList)

set_option maxHeartbeats 400000 in
set_option maxRecDepth 100000 in
theorem compareEdits_any (x y : Ed) (w : World) :
    Calls Tryd.prog 68 #[.agg #[.int .i64 x.f, .int .i64 x.t, .string x.s], .agg #[.int .i64 y.f, .int .i64 y.t, .string y.s]] w fun e w' => e = .returned (.int .i64 (cmpE x y)) ∧ ∃ q os, w' = grow (w.drewN q) os := by
  have h1 := fun W => cmpCompare_any x.f y.f W
  have h2 := fun W => cmpCompare_any x.t y.t W
  have h3 := fun W => Tryd.strings_Compare x.s y.s W
  unfold cmpE
  generalize cmpI x.f y.f = a at *
  generalize cmpI x.t y.t = b at *
  generalize Lib.compareBytes x.s.data.toList y.s.data.toList = c at *
  have H1 := Lib.hid h1
  have H2 := Lib.hid h2
  have H3 := Lib.hid h3
  clear h1 h2 h3
  go_enter Tryd.func68, Tryd.ntmps68
  go_wp2_with fail
  obtain ⟨W, hW⟩ : ∃ W : World, W = (w.alloc (Obj.cells #[Value.int IntKind.i64 x.f, Value.int IntKind.i64 x.t, Value.string x.s] 46)).alloc (Obj.cells #[Value.int IntKind.i64 y.f, Value.int IntKind.i64 y.t, Value.string y.s] 46) := ⟨_, rfl⟩
  have c0 : W.drew.cell? ⟨w.heap.size, 0, none⟩ = some (.int .i64 x.f) := by subst hW; go_simp
  have c1 : W.drew.cell? ⟨w.heap.size, 1, none⟩ = some (.int .i64 x.t) := by subst hW; go_simp
  have c2 : W.drew.cell? ⟨w.heap.size, 2, none⟩ = some (.string x.s) := by subst hW; go_simp
  have d0 : W.drew.cell? ⟨w.heap.size + 1, 0, none⟩ = some (.int .i64 y.f) := by subst hW; go_simp
  have d1 : W.drew.cell? ⟨w.heap.size + 1, 1, none⟩ = some (.int .i64 y.t) := by subst hW; go_simp
  have d2 : W.drew.cell? ⟨w.heap.size + 1, 2, none⟩ = some (.string y.s) := by subst hW; go_simp
  have hG : ∀ os, grow W.drew os = grow (w.drewN 1) (#[Obj.cells #[Value.int IntKind.i64 x.f, Value.int IntKind.i64 x.t, Value.string x.s] 46, Obj.cells #[Value.int IntKind.i64 y.f, Value.int IntKind.i64 y.t, Value.string y.s] 46] ++ os) := by
    intro os; subst hW; rw [alloc_eq_grow, alloc_eq_grow, grow_grow, drew_grow, grow_grow]; rfl
  rw [← hW]
  refine wp_region_still_tail 15 (by kernel_rfl) (by kernel_rfl) ?_
  simp only [List.take_succ_cons, List.take_zero, List.drop_succ_cons, List.drop_zero]
  clear hW
  change wpStill _ _ W.drew (fun a' => wpList _ _ _ _ a' W.drew) _ _
  generalize W.drew = W2 at *
  repeat still_step
  still_call (H1.out _)
  repeat still_step
  still_call (H2.out _)
  repeat still_step
  still_call (H3.out _)
  repeat still_step
  refine wpStill_nil ?_
  have HG := Lib.hid hG
  clear hG H1 H2 H3
  go_wp2_with (go_at_call 100; refine (cmpOr_any W2.heap.size a b c _ (by go_simp) (by go_simp) (by go_simp)).mono ?_; rintro e w' ⟨rfl, rfl⟩)
  go_ret
  exact ⟨rfl, 1, _, by rw [alloc_eq_grow]; exact HG.out _⟩

theorem cmpLays (blk off size : Nat) (w : World) : CmpLays Tryd.prog 68 #[] Ed.cells 3 cmpE blk off size w :=
  fun _ _ _ _ x y => compareEdits_any x y _

end Go.Proofs.YtgpmodbndngcoaaDoor
