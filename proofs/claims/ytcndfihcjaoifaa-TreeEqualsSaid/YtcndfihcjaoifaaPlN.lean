/- Trees that a call makes: where their lists lie; a list of trees written in place; slices.Clone of a list of trees. -/
import Derived.Test.YtcndfihcjaoifaaPlT
import Derived.Laws.OwnMore

namespace Go.Proofs.Ytcndfihcjaoifaa
open Go.RowKit Go.Maps

mutual
/-- all lists of parts of a tree lie in block B or behind it -/
def Nd.Ge (B : Nat) : Nd → Prop
  | .mk _ _ _ _ _ A _ l => (∀ a, A = some a → B ≤ a.block) ∧ Nd.AllGe B l
def Nd.AllGe (B : Nat) : List Nd → Prop
  | [] => True
  | x :: l => Nd.Ge B x ∧ Nd.AllGe B l
end

theorem Nd.AllGe.mem {B : Nat} : ∀ {l : List Nd}, Nd.AllGe B l → ∀ x ∈ l, x.Ge B
  | [], _, _, h => by simp at h
  | x :: l, h, y, hy => by
    unfold Nd.AllGe at h
    rcases List.mem_cons.1 hy with rfl | hy
    · exact h.1
    · exact h.2.mem y hy
theorem Nd.AllGe.of {B : Nat} : ∀ {l : List Nd}, (∀ x ∈ l, x.Ge B) → Nd.AllGe B l
  | [], _ => by unfold Nd.AllGe; trivial
  | x :: l, h => by
    unfold Nd.AllGe
    exact ⟨h x (by simp), Nd.AllGe.of fun y hy => h y (by simp [hy])⟩

mutual
theorem Nd.Ge.less {B B' : Nat} (hB : B' ≤ B) : ∀ (x : Nd), x.Ge B → x.Ge B'
  | .mk _ _ _ _ _ _ _ l, h => by
    unfold Nd.Ge at h ⊢
    exact ⟨fun a e => Nat.le_trans hB (h.1 a e), Nd.AllGe.less hB l h.2⟩
theorem Nd.AllGe.less {B B' : Nat} (hB : B' ≤ B) : ∀ (l : List Nd), Nd.AllGe B l → Nd.AllGe B' l
  | [], _ => by unfold Nd.AllGe; trivial
  | x :: l, h => by
    unfold Nd.AllGe at h ⊢
    exact ⟨Nd.Ge.less hB x h.1, Nd.AllGe.less hB l h.2⟩
end

mutual
theorem Nd.In.keepGe {w w' : World} {B0 B B' : Nat} (hk : ∀ b o, B0 ≤ b → b < B → w'.cell? ⟨b, o, none⟩ = w.cell? ⟨b, o, none⟩) (hB : B ≤ B') : ∀ (x : Nd), x.Ge B0 → x.In w B → x.In w' B'
  | .mk _ _ _ _ _ A _ l, hg, h => by
    unfold Nd.Ge at hg
    unfold Nd.In at h ⊢
    refine ⟨fun hl => ?_, h.2.1, Nd.AllIn.keepGe hk hB l hg.2 h.2.2⟩
    obtain ⟨b, off, e, hb, hc⟩ := h.1 hl
    exact ⟨b, off, e, by omega, fun j u hu => (hk _ _ (hg.1 _ e) hb).trans (hc j u hu)⟩
theorem Nd.AllIn.keepGe {w w' : World} {B0 B B' : Nat} (hk : ∀ b o, B0 ≤ b → b < B → w'.cell? ⟨b, o, none⟩ = w.cell? ⟨b, o, none⟩) (hB : B ≤ B') : ∀ (l : List Nd), Nd.AllGe B0 l → Nd.AllIn w B l → Nd.AllIn w' B' l
  | [], _, _ => by unfold Nd.AllIn; trivial
  | x :: l, hg, h => by
    unfold Nd.AllGe at hg
    unfold Nd.AllIn at h ⊢
    exact ⟨Nd.In.keepGe hk hB x hg.1 h.1, Nd.AllIn.keepGe hk hB l hg.2 h.2⟩
end

theorem cellsN_set6 : ∀ (l : List Nd) (k : Nat) (_ : k < l.length) (y : Nd) (v0 v1 v2 v3 v4 v5 : Value), y.cells = [v0, v1, v2, v3, v4, v5] →
    ((((((cellsN l).set (k * 6) v0).set (k * 6 + 1) v1).set (k * 6 + 2) v2).set (k * 6 + 3) v3).set (k * 6 + 4) v4).set (k * 6 + 5) v5 = cellsN (l.set k y)
  | [], _, h, _, _, _, _, _, _, _, _ => by simp at h
  | x :: l, 0, _, y, v0, v1, v2, v3, v4, v5, hy => by
    show _ = y.cells ++ cellsN l
    rw [hy]
    cases x
    rfl
  | x :: l, k + 1, h, y, v0, v1, v2, v3, v4, v5, hy => by
    have ih := cellsN_set6 l k (by simpa using h) y v0 v1 v2 v3 v4 v5 hy
    have hx : x.cells.length = 6 := x.cells_length
    have e : ∀ (L : List Value) (j : Nat) (v : Value), (x.cells ++ L).set ((k + 1) * 6 + j) v = x.cells ++ L.set (k * 6 + j) v := fun L j v => by
      rw [List.set_append_right _ _ (by omega), hx, show (k + 1) * 6 + j - 6 = k * 6 + j by omega]
    have e0 := e (cellsN l) 0 v0
    simp only [Nat.add_zero] at e0
    show ((((((x.cells ++ cellsN l).set ((k + 1) * 6) v0).set ((k + 1) * 6 + 1) v1).set ((k + 1) * 6 + 2) v2).set ((k + 1) * 6 + 3) v3).set ((k + 1) * 6 + 4) v4).set ((k + 1) * 6 + 5) v5 = x.cells ++ cellsN (l.set k y)
    rw [e0, e, e, e, e, e, ih]

theorem own_setN {w : World} {B g n c k : Nat} {T : TypeId} {l : List Nd} (h : w.ownsRow B T 6 (.slice (some ⟨g, 0, none⟩) n c) n (cellsN l)) (hk : k < l.length) {y : Nd} {v0 v1 v2 v3 v4 v5 : Value} (hy : y.cells = [v0, v1, v2, v3, v4, v5]) :
    ((((((w.setCell ⟨g, k * 6, none⟩ v0).setCell ⟨g, k * 6 + 1, none⟩ v1).setCell ⟨g, k * 6 + 2, none⟩ v2).setCell ⟨g, k * 6 + 3, none⟩ v3).setCell ⟨g, k * 6 + 4, none⟩ v4).setCell ⟨g, k * 6 + 5, none⟩ v5).ownsRow B T 6 (.slice (some ⟨g, 0, none⟩) n c) n (cellsN (l.set k y)) ∧
    w.grownBy ((((((w.setCell ⟨g, k * 6, none⟩ v0).setCell ⟨g, k * 6 + 1, none⟩ v1).setCell ⟨g, k * 6 + 2, none⟩ v2).setCell ⟨g, k * 6 + 3, none⟩ v3).setCell ⟨g, k * 6 + 4, none⟩ v4).setCell ⟨g, k * 6 + 5, none⟩ v5) (some g) := by
  have h0 := h.stored (k * 6) v0
  have h1 := h0.1.stored (k * 6 + 1) v1
  have h2 := h1.1.stored (k * 6 + 2) v2
  have h3 := h2.1.stored (k * 6 + 3) v3
  have h4 := h3.1.stored (k * 6 + 4) v4
  have h5 := h4.1.stored (k * 6 + 5) v5
  rw [cellsN_set6 l k hk y v0 v1 v2 v3 v4 v5 hy] at h5
  exact ⟨h5.1, grownBy_trans (grownBy_trans (grownBy_trans (grownBy_trans (grownBy_trans h0.2 h1.2) h2.2) h3.2) h4.2) h5.2⟩

theorem infoNd : (Try.prog.info? 24).map (fun i => (i.zero, i.size, i.bytes)) = some (some (.agg #[.int .i64 0, .string ⟨#[]⟩, .int .i64 0, .int .i64 0, .int .i64 0, .slice none 0 0]), 6, 72) := by kernel_rfl

set_option maxHeartbeats 400000 in
set_option maxRecDepth 100000 in
theorem cloneN_any (A : Option Addr) (c : Nat) (l : List Nd) (w : World) (hl : l.length ≤ 1000000) (h : Rd w w.heap.size A (cellsN l)) :
    Calls Try.prog 51 #[.slice A l.length c] w fun e w' => ∃ A' c', e = .returned (.slice A' l.length c') ∧ w'.ownsRow w.heap.size 24 6 (.slice A' l.length c') l.length (cellsN l) ∧ Below w.heap.size w w' := by
  obtain ⟨i0, hi, hz0, hz1, hz2⟩ := info_parts infoNd
  have hq := fun (W : World) (x : Option Addr) (n k : Nat) => Lib.run_eql_slice_nil (P := Try.prog) W 22 24 x n k 0 0 Try.underlying22
  rcases A with _ | ad
  · have hl0 : l = [] := by
      cases l with
      | nil => rfl
      | cons x l =>
        obtain ⟨b, off, e, _⟩ := h (by rw [cellsN_length]; simp)
        cases e
    subst hl0
    clear h hl
    go_enter Try.func51, Try.ntmps51
    go_wp2
    go_ret
    exact ⟨none, 0, rfl, World.ownsRow_nil _ _ _ _, Below.refl _ _⟩
  · have HN := Lib.hid (Rd.at_add (h.below ((Below.refl w.heap.size w).alloc (Nat.le_refl _) (.cells #[] 24))))
    have HO := Lib.hid (World.ownsRow_made (base := w.heap.size) (size := 6) (e := 24) w #[] 0 (Nat.le_refl _) (Nat.zero_le _) rfl)
    have hb0 := (Below.refl w.heap.size w).alloc (Nat.le_refl _) (.cells #[] 24)
    have HB := Lib.hid hb0
    clear h hb0
    go_enter Try.func51, Try.ntmps51
    go_wp2_with (at_builtin; refine wpList_append_own _ rfl (.tmp 5) (.tmp 6) 22 rfl w.heap.size 24 i0 _ 6 72 Try.underlying22 hi hz0 hz1 hz2 rfl (by decide) _ 0 [] rfl HO.out ad l.length c (cellsN l) rfl (cellsN_length l) HN.out (fun u hu => cellsN_one hu) (by unfold maxLen; omega) (by omega) (by simp) ?_; intro v' w' hown' hg _)
    simp only [Nat.zero_add, List.nil_append] at hown'
    go_wp2
    go_ret
    obtain ⟨A', c', rfl⟩ : ∃ A' c', v' = .slice A' l.length c' := by
      rcases hown'.2 with ⟨e, e0⟩ | ⟨g, cap, cur, e, _⟩
      · exact ⟨none, 0, by rw [e, e0]⟩
      · exact ⟨_, _, e⟩
    exact ⟨A', c', rfl, hown', HB.out.grown hg (by simp) (fun k e => by cases e; exact Nat.le_refl _)⟩

theorem bare_cnt (x : Nd) : x.bare.cnt ≤ x.cnt := by
  match x with
  | .mk op s n f t A c l =>
    rw [Nd.bare]
    split
    · next hh =>
      have := List.sizeOf_lt_of_mem (List.getElem_mem (l := l) (n := 0) (by omega))
      refine Nat.le_trans (bare_cnt _) ?_
      cases l with
      | nil => simp at hh
      | cons y l => simp only [List.getElem_cons_zero, Nd.cnt, cntL]; omega
    · exact Nat.le_refl _
termination_by SizeOf.sizeOf x
decreasing_by
  simp only [Nd.mk.sizeOf_spec]
  omega

theorem cntL_mem : ∀ {l : List Nd} {x : Nd}, x ∈ l → x.cnt ≤ cntL l
  | [], _, h => by simp at h
  | y :: l, x, h => by
    rcases List.mem_cons.1 h with rfl | h
    · simp only [cntL]; omega
    · have := cntL_mem h; simp only [cntL]; omega

end Go.Proofs.Ytcndfihcjaoifaa
