/- Plain: edits joined one by one. -/
import Derived.Test.YtgpmodbndngcoaaDoorJoinF
import Derived.Test.YtgpmodbndngcoaaDoorRefOrdF
namespace Go.Proofs.YtgpmodbndngcoaaDoor
open Go.RowKit

/-- two edits at one place, as one -/
def glue (e x : Ed) : Ed := ⟨e.f, e.t, e.s ++ x.s⟩

def putJ : List Ed → Ed → List Ed
  | [], x => [x]
  | [e], x => if sameP e x then [glue e x] else [e, x]
  | a :: b :: l, x => a :: putJ (b :: l) x

theorem putJ_eq : ∀ (o : List Ed) (x : Ed) (h : 0 < o.length), putJ o x = if sameP (o[o.length - 1]'(by omega)) x then o.set (o.length - 1) (glue (o[o.length - 1]'(by omega)) x) else o ++ [x]
  | [e], x, _ => by simp [putJ]
  | a :: b :: l, x, _ => by
    have ih := putJ_eq (b :: l) x (by simp)
    have e1 : (a :: b :: l).length - 1 = (b :: l).length - 1 + 1 := by simp
    simp only [putJ, ih, e1, List.getElem_cons_succ, List.set_cons_succ, List.cons_append]
    split <;> rfl

theorem toL_append (a b : ByteArray) : (a ++ b).data.toList = a.data.toList ++ b.data.toList := by simp [ByteArray.data_append]

theorem mkB (x : Ed) : (⟨x.f, x.t, ⟨(textsL [x]).toArray⟩⟩ : Ed) = x := Ed.ext' rfl rfl (ba_ext (by simp [textsL]))

theorem tw_snoc_all (p : Ed → Bool) (x : Ed) : ∀ r : List Ed, r.dropWhile p = [] → (r ++ [x]).takeWhile p = r ++ (if p x then [x] else []) ∧ (r ++ [x]).dropWhile p = if p x then [] else [x]
  | [], _ => by
    by_cases g : p x = true
    · simp [g]
    · simp [g]
  | y :: r, h => by
    rw [List.dropWhile_cons] at h
    by_cases g : p y = true
    · rw [if_pos g] at h
      obtain ⟨a, b⟩ := tw_snoc_all p x r h
      rw [List.cons_append, List.takeWhile_cons, if_pos g, List.dropWhile_cons, if_pos g, a, b]
      exact ⟨rfl, rfl⟩
    · rw [if_neg g] at h; cases h

theorem tw_snoc_some (p : Ed → Bool) (x : Ed) : ∀ r : List Ed, r.dropWhile p ≠ [] → (r ++ [x]).takeWhile p = r.takeWhile p ∧ (r ++ [x]).dropWhile p = r.dropWhile p ++ [x]
  | [], h => by simp at h
  | y :: r, h => by
    rw [List.dropWhile_cons] at h
    by_cases g : p y = true
    · rw [if_pos g] at h
      obtain ⟨a, b⟩ := tw_snoc_some p x r h
      rw [List.cons_append, List.takeWhile_cons, if_pos g, List.dropWhile_cons, if_pos g, a, b, List.takeWhile_cons, if_pos g, List.dropWhile_cons, if_pos g]
      exact ⟨rfl, rfl⟩
    · rw [List.cons_append, List.takeWhile_cons, if_neg g, List.dropWhile_cons, if_neg g, List.takeWhile_cons, if_neg g, List.dropWhile_cons, if_neg g]
      exact ⟨rfl, rfl⟩

theorem joinF_ne {l : List Ed} (h : l ≠ []) : joinF l ≠ [] := by
  cases l with
  | nil => exact absurd rfl h
  | cons x l => rw [joinF_cons]; simp

theorem putJ_cons (a : Ed) {l : List Ed} (h : l ≠ []) (x : Ed) : putJ (a :: l) x = a :: putJ l x := by
  cases l with
  | nil => exact absurd rfl h
  | cons b l => rfl

theorem tw_all (p : Ed → Bool) (r : List Ed) (h : r.dropWhile p = []) : r.takeWhile p = r := by
  have := List.takeWhile_append_dropWhile (p := p) (l := r)
  rwa [h, List.append_nil] at this

theorem joinF_snoc : ∀ (n : Nat) (p : List Ed) (x : Ed), p.length ≤ n → joinF (p ++ [x]) = putJ (joinF p) x
  | _, [], x, _ => by
    rw [List.nil_append, joinF_cons, joinF_nil, putJ]
    simp only [List.takeWhile_nil, List.dropWhile_nil, joinF_nil]
    rw [mkB]
  | 0, h :: r, _, hl => by simp at hl
  | n + 1, h :: r, x, hl => by
    simp only [List.length_cons] at hl
    rw [List.cons_append, joinF_cons, joinF_cons]
    by_cases g : r.dropWhile (sameP h) = []
    · obtain ⟨a, b⟩ := tw_snoc_all (sameP h) x r g
      rw [a, b, g, joinF_nil, tw_all _ _ g, putJ]
      have hs : sameP ⟨h.f, h.t, ⟨(textsL (h :: r)).toArray⟩⟩ x = sameP h x := rfl
      rw [hs]
      by_cases k : sameP h x = true
      · rw [if_pos k, if_pos k, if_pos k, joinF_nil]
        congr 1
        refine Ed.ext' rfl rfl (ba_ext ?_)
        show (textsL (h :: (r ++ [x]))).toArray.toList = ((ByteArray.mk (textsL (h :: r)).toArray) ++ x.s).data.toList
        rw [toL_append, ← List.cons_append, textsL_append]
        simp [textsL]
      · rw [if_neg k, if_neg k, if_neg k, List.append_nil, joinF_cons]
        simp only [List.takeWhile_nil, List.dropWhile_nil, joinF_nil]
        rw [mkB]
    · obtain ⟨a, b⟩ := tw_snoc_some (sameP h) x r g
      have hd := drop_le h r
      rw [a, b, joinF_snoc n _ x (by omega), putJ_cons _ (joinF_ne g)]

end Go.Proofs.YtgpmodbndngcoaaDoor
