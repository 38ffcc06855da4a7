import Derived.Test.YtgpmodbndngcoaaDoorPlain
namespace Go.Proofs.YtgpmodbndngcoaaDoor
open Go.RowKit

theorem infoEd : (Tryd.prog.info? 46).map (fun i => (i.zero, i.size, i.bytes)) = some (some (.agg #[.int .i64 0, .int .i64 0, .string ⟨#[]⟩]), 3, 32) := by kernel_rfl

set_option maxHeartbeats 400000 in
set_option maxRecDepth 100000 in
theorem cloneE_any (A : Option Addr) (c : Nat) (l : List Ed) (w : World) (hl : l.length ≤ 1000000) (hA : A = none → l = [] ∧ c = 0) (h : ESl w w.heap.size A l) :
    Calls Tryd.prog 97 #[.slice A l.length c] w fun e w' => ∃ A' c', e = .returned (.slice A' l.length c') ∧ w'.ownsRow w.heap.size 46 3 (.slice A' l.length c') l.length (cellsE l) ∧ Below w.heap.size w w' := by
  obtain ⟨i0, hi, hz0, hz1, hz2⟩ := info_parts infoEd
  have hq := fun (W : World) (x : Option Addr) (n k : Nat) => Lib.run_eql_slice_nil (P := Tryd.prog) W 30 46 x n k 0 0 Tryd.underlying30
  rcases A with _ | ad
  · obtain ⟨rfl, rfl⟩ := hA rfl
    clear h hl
    go_enter Tryd.func97, Tryd.ntmps97
    go_wp2
    go_ret
    exact ⟨none, 0, rfl, World.ownsRow_nil _ _ _ _, Below.refl _ _⟩
  · have HN := Lib.hid (Rd.at_add (h.below ((Below.refl w.heap.size w).alloc (Nat.le_refl _) (.cells #[] 46))))
    have HO := Lib.hid (World.ownsRow_made (base := w.heap.size) (size := 3) (e := 46) w #[] 0 (Nat.le_refl _) (Nat.zero_le _) rfl)
    have hb0 := (Below.refl w.heap.size w).alloc (Nat.le_refl _) (.cells #[] 46)
    have HB := Lib.hid hb0
    clear h hA hb0
    go_enter Tryd.func97, Tryd.ntmps97
    go_wp2_with (at_builtin; refine wpList_append_own _ rfl (.tmp 5) (.tmp 6) 30 rfl w.heap.size 46 i0 _ 3 32 Tryd.underlying30 hi hz0 hz1 hz2 rfl (by decide) _ 0 [] rfl HO.out ad l.length c (cellsE l) rfl (cellsE_length l) HN.out (fun u hu => cellsE_one hu) (by unfold maxLen; omega) (by omega) (by simp) ?_; intro v' w' hown' hg _)
    simp only [Nat.zero_add, List.nil_append] at hown'
    go_wp2
    go_ret
    obtain ⟨A', c', rfl⟩ : ∃ A' c', v' = .slice A' l.length c' := by
      rcases hown'.2 with ⟨e, e0⟩ | ⟨g, cap, cur, e, _⟩
      · exact ⟨none, 0, by rw [e, e0]⟩
      · exact ⟨_, _, e⟩
    exact ⟨A', c', rfl, hown', HB.out.grown hg (by simp) (fun k e => by cases e; exact Nat.le_refl _)⟩

end Go.Proofs.YtgpmodbndngcoaaDoor
