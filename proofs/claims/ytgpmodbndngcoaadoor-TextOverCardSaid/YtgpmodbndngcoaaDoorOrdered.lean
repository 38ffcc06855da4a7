import Derived.Test.YtgpmodbndngcoaaDoorCompact
import Derived.Shelf.SlSortCmp.NoneTotal
namespace Go.Proofs.YtgpmodbndngcoaaDoor
open Go.RowKit Go.Sort

/-- the slice value v reads as the edits l -/
def IsE (w : World) (v : Value) (l : List Ed) : Prop :=
  ∃ A c, v = .slice A l.length c ∧ (A = none → l = [] ∧ c = 0) ∧ l.length ≤ c ∧ c ≤ maxLen ∧ ESl w w.heap.size A l

theorem IsE.below {w w' : World} {v : Value} {l : List Ed} (h : IsE w v l) (hb : Below w.heap.size w w') : IsE w' v l := by
  obtain ⟨A, c, e, hA, h1, h2, hE⟩ := h
  exact ⟨A, c, e, hA, h1, h2, (hE.below hb).more hb.size⟩

theorem IsE.nil (w : World) : IsE w (.slice none 0 0) [] := ⟨none, 0, rfl, fun _ => ⟨rfl, rfl⟩, Nat.le_refl _, Nat.zero_le _, Rd.nil⟩

theorem IsE.of_own {w : World} {base n : Nat} {v : Value} {l : List Ed} (hn : n = l.length) (h : w.ownsRow base 46 3 v n (cellsE l)) : IsE w v l := by
  subst hn
  rcases h.2 with ⟨rfl, e⟩ | ⟨g, cap, cur, rfl, hb, hg, hnc, hc, hs, ht⟩
  · have : l = [] := List.eq_nil_of_length_eq_zero e
    subst this
    exact IsE.nil w
  · exact ⟨_, cap, rfl, (fun e => by cases e), hnc, hc, Rd.of_own h⟩

theorem compE_ordF {l l' : List Ed} (hp : l'.Perm l) (hs : l'.Pairwise (fun a b => ¬ ltE b a)) : compE l' = ordF l :=
  ordF_of_sorted (sorted_compE l' hs) fun x => (mem_compE x l').trans hp.mem_iff

theorem sortE_none (w : World) : Calls Tryd.prog 98 #[.slice none 0 0, .func (.func 68) #[] #[]] w fun e w' => e = .returned (.tuple #[]) ∧ w' = w :=
  AnyF.slices_SortFunc_none Tryd.sortEd none 0 _ w

set_option maxHeartbeats 400000 in
set_option maxRecDepth 100000 in
theorem compactE_none (w : World) : Calls Tryd.prog 99 #[.slice none 0 0] w fun e w' => e = .returned (.slice none 0 0) ∧ w' = w := by
  go_enter Tryd.func99, Tryd.ntmps99
  go_wp2
  go_ret
  exact ⟨rfl, rfl⟩

set_option maxHeartbeats 400000 in
set_option maxRecDepth 100000 in
theorem ordered_any (v : Value) (l : List Ed) (w : World) (hl : l.length ≤ 1000000) (h : IsE w v l) :
    Calls Tryd.prog 67 #[v] w fun e w' => ∃ v', e = .returned v' ∧ IsE w' v' (ordF l) ∧ Below w.heap.size w w' := by
  obtain ⟨A, c, rfl, hA, h1, h2, hE⟩ := h
  have hcl := Lib.hid (cloneE_any A c l w hl hA hE)
  clear hE
  go_enter Tryd.func67, Tryd.ntmps67
  go_wp2_with (go_at_call 97; refine hcl.out.mono ?_; rintro e w1 ⟨A1, c1, rfl, ho, hb⟩)
  rcases A1 with _ | ad
  · have hl0 : l = [] ∧ c1 = 0 := by
      rcases ho.2 with ⟨e, e0⟩ | ⟨g, cap, cur, e, _⟩
      · injection e with _ _ e3
        exact ⟨List.eq_nil_of_length_eq_zero e0, e3⟩
      · cases e
    obtain ⟨rfl, rfl⟩ := hl0
    clear ho hcl
    go_wp2_with (first | (go_at_call 98; refine (sortE_none _).mono ?_; rintro e w' ⟨rfl, rfl⟩) | (go_at_call 99; refine (compactE_none _).mono ?_; rintro e w' ⟨rfl, rfl⟩))
    go_ret
    exact ⟨_, rfl, IsE.nil _, hb⟩
  · obtain ⟨g, rfl, hg⟩ : ∃ g, ad = ⟨g, 0, none⟩ ∧ w.heap.size ≤ g := by
      rcases ho.2 with ⟨e, _⟩ | ⟨g, cap, cur, e, hbg, _⟩
      · cases e
      · injection e with e
        injection e with e
        exact ⟨g, e, hbg⟩
    obtain ⟨hEB, _, hc1, hc2⟩ := EB.of_own ho
    have hs := Lib.hid (sortE_any g c1 l w1 hEB hl)
    clear ho hcl hEB
    go_wp2_with (go_at_call 98; refine hs.out.mono ?_; rintro e w2 ⟨rfl, l', hl', hp, hso, hEB, hb2⟩)
    have hB2 := hb.trans (hb2 _ hg)
    have HO := Lib.hid (compE_ordF hp hso)
    have hk := compactE_any g c1 l' w2 hEB (by omega) (by omega) hc2
    rw [HO.out, hl'] at hk
    have hk := Lib.hid hk
    clear hs hb hb2 hEB hp hso hl'
    go_wp2_with (go_at_call 99; refine hk.out.mono ?_; rintro e w3 ⟨rfl, hEB3, hb3⟩)
    go_ret
    have hlen : (ordF l).length ≤ c1 := Nat.le_trans (length_ordF l) hc1
    exact ⟨_, rfl, ⟨_, c1, rfl, fun e => by (cases e), hlen, hc2, hEB3.esl⟩, hB2.trans (hb3 _ hg)⟩

end Go.Proofs.YtgpmodbndngcoaaDoor
