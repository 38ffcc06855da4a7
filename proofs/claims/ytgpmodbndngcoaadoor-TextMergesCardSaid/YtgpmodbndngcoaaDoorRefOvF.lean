/- Plain: Over, as the document says it. -/
import Derived.Test.YtgpmodbndngcoaaDoorApp
namespace Go.Proofs.YtgpmodbndngcoaaDoor
open Go.RowKit Go.Sort

/-- how far an edit moves by edits that are made first, as the document says it -/
def movedF (x : Ed) : List Ed → Int
  | [] => 0
  | y :: l => (if ltE' y x && decide (y.t ≤ x.f) then (y.s.size : Int) - (y.t - y.f) else 0) + movedF x l

theorem movedF_take (x : Ed) (l : List Ed) (k : Nat) (h : k < l.length) : movedF x (l.take (k + 1)) = movedF x (l.take k) + (if ltE' l[k] x && decide (l[k].t ≤ x.f) then (l[k].s.size : Int) - (l[k].t - l[k].f) else 0) := by
  induction l generalizing k with
  | nil => simp at h
  | cons y l ih =>
    cases k with
    | zero => simp [movedF]
    | succ k =>
      have := ih k (by simpa using h)
      simp only [List.take_succ_cons, movedF, List.getElem_cons_succ, this]
      omega

theorem chain_mem {n : Nat} : ∀ (l : List Ed) (d : Nat), Chain n d l → ∀ x ∈ l, (d : Int) ≤ x.f
  | [], _, _, _, h => by simp at h
  | y :: l, d, hc, x, hx => by
    obtain ⟨c1, c2, c3, c4⟩ := hc
    rcases List.mem_cons.1 hx with rfl | hx
    · exact c1
    · have := chain_mem l _ c4 x hx; omega

theorem movedF_none (x : Ed) : ∀ (l : List Ed), (∀ y ∈ l, ltE' x y = true) → movedF x l = 0
  | [], _ => rfl
  | y :: l, h => by
    have h1 := ltE'_asymm (h y (by simp))
    rw [movedF, h1, movedF_none x l (fun z hz => h z (by simp [hz]))]
    simp

theorem overF_ref {n : Nat} (p q : Ed → Bool) : ∀ (M : List Ed) (d : Nat) (m : Int), (∀ x ∈ M, p x = true ∨ q x = true) → M.Pairwise (fun a b => ltE' a b = true) → Chain n d M →
    overF (M.filter p) (M.filter q) m = ((M.filter q).filter (fun x => !p x)).map (fun x => shiftE (m + movedF x (M.filter p)) x)
  | [], _, m, _, _, _ => by simp [overF_nil]
  | z :: M, d, m, hpq, hso, hc => by
    obtain ⟨c1, c2, c3, c4⟩ := hc
    rw [List.pairwise_cons] at hso
    have hpq' : ∀ x ∈ M, p x = true ∨ q x = true := fun x hx => hpq x (by simp [hx])
    by_cases g : p z = true
    · rw [overF_sub p q m z M hso.1 g, overF_ref p q M _ _ hpq' hso.2 c4]
      have e1 : ((z :: M).filter q).filter (fun x => !p x) = (M.filter q).filter (fun x => !p x) := by
        by_cases k : q z = true
        · rw [List.filter_cons, if_pos k, List.filter_cons, if_neg (by simp [g])]
        · rw [List.filter_cons, if_neg k]
      have e2 : (z :: M).filter p = z :: M.filter p := by rw [List.filter_cons, if_pos g]
      rw [e1, e2]
      refine List.map_congr_left fun x hx => ?_
      have hxM : x ∈ M := (List.mem_filter.1 (List.mem_filter.1 hx).1).1
      have h1 := hso.1 x hxM
      have h2 := chain_mem M _ c4 x hxM
      rw [movedF, h1, decide_eq_true (show z.t ≤ x.f by omega)]
      simp only [Bool.and_self, if_true]
      congr 1
      omega
    · have hpz : p z = false := by simpa using g
      have hqz : q z = true := by rcases hpq z (by simp) with h | h; exact absurd h g; exact h
      rw [overF_new p q m z M hso.1 hpz hqz, overF_ref p q M _ _ hpq' hso.2 c4]
      have e1 : ((z :: M).filter q).filter (fun x => !p x) = z :: (M.filter q).filter (fun x => !p x) := by
        rw [List.filter_cons, if_pos hqz, List.filter_cons, if_pos (by simp [hpz])]
      have e2 : (z :: M).filter p = M.filter p := by rw [List.filter_cons, if_neg g]
      rw [e1, e2, List.map_cons, movedF_none z _ (fun y hy => hso.1 y (List.mem_filter.1 hy).1), Int.add_zero]

/-- Over, as the document says it: edits that the other list has are left out, the others are moved -/
def refOvF (A B : List Ed) : List Ed := (B.filter (fun x => !decide (x ∈ A))).map (fun x => shiftE (movedF x A) x)

theorem refOvF_is {n : Nat} {a b : List Ed} (h : fineF n (a ++ b) = 0) : overF (ordF a) (ordF b) 0 = refOvF (ordF a) (ordF b) := by
  have hch := chain_fine h
  have hM := sorted_ordF (a ++ b)
  have fa := filter_ord a (ordF (a ++ b)) hM (fun x hx => (mem_ordF x _).2 (by simp [hx]))
  have fb := filter_ord b (ordF (a ++ b)) hM (fun x hx => (mem_ordF x _).2 (by simp [hx]))
  have hM' : (ordF (a ++ b)).Pairwise (fun a b => ltE' a b = true) := hM.imp (fun h => (ltE'_iff _ _).2 h)
  have := overF_ref (fun x => decide (x ∈ a)) (fun x => decide (x ∈ b)) (ordF (a ++ b)) 0 0 (fun x hx => by
    have := (mem_ordF x _).1 hx
    simpa using this) hM' hch
  rw [fa, fb] at this
  rw [this]
  unfold refOvF
  have e : (fun x : Ed => !decide (x ∈ a)) = fun x => !decide (x ∈ ordF a) := by
    funext x
    rw [show decide (x ∈ a) = decide (x ∈ ordF a) from decide_eq_decide.2 (mem_ordF x a).symm]
  rw [e]
  refine List.map_congr_left fun x _ => ?_
  rw [Int.zero_add]

end Go.Proofs.YtgpmodbndngcoaaDoor
