/- Plain: edits joined one by one. The document's joined: it gives what the program's joined gives. -/
import Derived.Test.YtihnafocjognaaaGreatDoorEd
import Derived.Test.YtihnafocjognaaaGreatDoorSort
import Derived.Test.YtihnafocjognaaaGreatDoorRefOrd
import Derived.RegionTactic

namespace Go.Proofs.YtihnafocjognaaaGreatDoor
open Go.RowKit

/-- two edits at one place, as one -/
def glue (e x : Ed) : Ed := ⟨e.f, e.t, e.s ++ x.s⟩

def putJ : List Ed → Ed → List Ed
  | [], x => [x]
  | [e], x => if sameP e x then [glue e x] else [e, x]
  | a :: b :: l, x => a :: putJ (b :: l) x

theorem putJ_eq : ∀ (o : List Ed) (x : Ed) (h : 0 < o.length), putJ o x = if sameP (o[o.length - 1]'(by omega)) x then o.set (o.length - 1) (glue (o[o.length - 1]'(by omega)) x) else o ++ [x]
  | [e], x, _ => by simp [putJ]
  | a :: b :: l, x, _ => by
    have ih := putJ_eq (b :: l) x (by simp)
    have e1 : (a :: b :: l).length - 1 = (b :: l).length - 1 + 1 := by simp
    simp only [putJ, ih, e1, List.getElem_cons_succ, List.set_cons_succ, List.cons_append]
    split <;> rfl

theorem toL_append (a b : ByteArray) : (a ++ b).data.toList = a.data.toList ++ b.data.toList := by simp [ByteArray.data_append]

theorem mkB (x : Ed) : (⟨x.f, x.t, ⟨(textsL [x]).toArray⟩⟩ : Ed) = x := Ed.ext' rfl rfl (ba_ext (by simp [textsL]))

theorem tw_snoc_all (p : Ed → Bool) (x : Ed) : ∀ r : List Ed, r.dropWhile p = [] → (r ++ [x]).takeWhile p = r ++ (if p x then [x] else []) ∧ (r ++ [x]).dropWhile p = if p x then [] else [x]
  | [], _ => by
    by_cases g : p x = true
    · simp [g]
    · simp [g]
  | y :: r, h => by
    rw [List.dropWhile_cons] at h
    by_cases g : p y = true
    · rw [if_pos g] at h
      obtain ⟨a, b⟩ := tw_snoc_all p x r h
      rw [List.cons_append, List.takeWhile_cons, if_pos g, List.dropWhile_cons, if_pos g, a, b]
      exact ⟨rfl, rfl⟩
    · rw [if_neg g] at h; cases h

theorem tw_snoc_some (p : Ed → Bool) (x : Ed) : ∀ r : List Ed, r.dropWhile p ≠ [] → (r ++ [x]).takeWhile p = r.takeWhile p ∧ (r ++ [x]).dropWhile p = r.dropWhile p ++ [x]
  | [], h => by simp at h
  | y :: r, h => by
    rw [List.dropWhile_cons] at h
    by_cases g : p y = true
    · rw [if_pos g] at h
      obtain ⟨a, b⟩ := tw_snoc_some p x r h
      rw [List.cons_append, List.takeWhile_cons, if_pos g, List.dropWhile_cons, if_pos g, a, b, List.takeWhile_cons, if_pos g, List.dropWhile_cons, if_pos g]
      exact ⟨rfl, rfl⟩
    · rw [List.cons_append, List.takeWhile_cons, if_neg g, List.dropWhile_cons, if_neg g, List.takeWhile_cons, if_neg g, List.dropWhile_cons, if_neg g]
      exact ⟨rfl, rfl⟩

theorem joinF_ne {l : List Ed} (h : l ≠ []) : joinF l ≠ [] := by
  cases l with
  | nil => exact absurd rfl h
  | cons x l => rw [joinF_cons]; simp

theorem putJ_cons (a : Ed) {l : List Ed} (h : l ≠ []) (x : Ed) : putJ (a :: l) x = a :: putJ l x := by
  cases l with
  | nil => exact absurd rfl h
  | cons b l => rfl

theorem tw_all (p : Ed → Bool) (r : List Ed) (h : r.dropWhile p = []) : r.takeWhile p = r := by
  have := List.takeWhile_append_dropWhile (p := p) (l := r)
  rwa [h, List.append_nil] at this

theorem joinF_snoc : ∀ (n : Nat) (p : List Ed) (x : Ed), p.length ≤ n → joinF (p ++ [x]) = putJ (joinF p) x
  | _, [], x, _ => by
    rw [List.nil_append, joinF_cons, joinF_nil, putJ]
    simp only [List.takeWhile_nil, List.dropWhile_nil, joinF_nil]
    rw [mkB]
  | 0, h :: r, _, hl => by simp at hl
  | n + 1, h :: r, x, hl => by
    simp only [List.length_cons] at hl
    rw [List.cons_append, joinF_cons, joinF_cons]
    by_cases g : r.dropWhile (sameP h) = []
    · obtain ⟨a, b⟩ := tw_snoc_all (sameP h) x r g
      rw [a, b, g, joinF_nil, tw_all _ _ g, putJ]
      have hs : sameP ⟨h.f, h.t, ⟨(textsL (h :: r)).toArray⟩⟩ x = sameP h x := rfl
      rw [hs]
      by_cases k : sameP h x = true
      · rw [if_pos k, if_pos k, if_pos k, joinF_nil]
        congr 1
        refine Ed.ext' rfl rfl (ba_ext ?_)
        show (textsL (h :: (r ++ [x]))).toArray.toList = ((ByteArray.mk (textsL (h :: r)).toArray) ++ x.s).data.toList
        rw [toL_append, ← List.cons_append, textsL_append]
        simp [textsL]
      · rw [if_neg k, if_neg k, if_neg k, List.append_nil, joinF_cons]
        simp only [List.takeWhile_nil, List.dropWhile_nil, joinF_nil]
        rw [mkB]
    · obtain ⟨a, b⟩ := tw_snoc_some (sameP h) x r g
      have hd := drop_le h r
      rw [a, b, joinF_snoc n _ x (by omega), putJ_cons _ (joinF_ne g)]

end Go.Proofs.YtihnafocjognaaaGreatDoor

namespace Go.Proofs.YtihnafocjognaaaGreatDoor
open Go.RowKit Go.Maps Go.Sort

/-- a text stored into the edit at place i -/
theorem EB.text {w : World} {g : Nat} {l : List Ed} (h : EB w g l) (i : Nat) (hi : i < l.length) (s : ByteArray) : EB (w.setCell ⟨g, i * 3 + 2, none⟩ (.string s)) g (l.set i ⟨l[i].f, l[i].t, s⟩) := by
  obtain ⟨cur, hg, hs, ht⟩ := h
  obtain ⟨cur', a, b, c, d⟩ := blk_setCells [.string s] w (i * 3 + 2) cur hg
  have hsz : i * 3 + 3 ≤ cur.size := by omega
  refine ⟨cur', a, by rw [b]; simpa using hs, ?_⟩
  apply List.ext_getElem?
  intro j
  rw [List.getElem?_take]
  simp only [List.length_set]
  by_cases hj : j < l.length * 3
  · rw [if_pos hj, Array.getElem?_toList]
    have e0 : (cellsE l)[j]? = cur[j]? := by rw [← ht, List.getElem?_take, if_pos hj, Array.getElem?_toList]
    have f1 := flat_get l.toArray j (by simpa using hj)
    have f2 := flat_get (l.set i ⟨l[i].f, l[i].t, s⟩).toArray j (by simpa using hj)
    rw [f2]
    by_cases hji : j / 3 = i
    · have e3 : ((l.set i ⟨l[i].f, l[i].t, s⟩).toArray)[j / 3]! = ⟨l[i].f, l[i].t, s⟩ := by rw [getElem!_pos _ _ (by simp; omega)]; simp [hji]
      have e4 : (l.toArray)[j / 3]! = l[i] := by rw [getElem!_pos _ _ (by simp; omega)]; simp [hji]
      rw [e3]
      by_cases h2 : j = i * 3 + 2
      · have := d 0 (by simp) (by omega)
        rw [Nat.add_zero, ← h2] at this
        rw [this, show j % 3 = 2 by omega]
        rfl
      · rw [c j (by simp only [List.length_cons, List.length_nil]; omega), ← e0, f1, e4]
        rcases (by omega : j % 3 = 0 ∨ j % 3 = 1) with e | e
        · rw [e]; rfl
        · rw [e]; rfl
    · rw [c j (by simp only [List.length_cons, List.length_nil]; omega), ← e0, f1]
      have e3 : ((l.set i ⟨l[i].f, l[i].t, s⟩).toArray)[j / 3]! = (l.toArray)[j / 3]! := by
        rw [getElem!_pos _ _ (by simp; omega), getElem!_pos _ _ (by simp; omega)]
        simp [Ne.symm hji]
      rw [e3]
  · rw [if_neg hj, List.getElem?_eq_none (by rw [cellsE_length, List.length_set]; omega)]

theorem joinF_texts : ∀ (n : Nat) (l : List Ed), l.length ≤ n → textsL (joinF l) = textsL l
  | _, [], _ => by rw [joinF_nil]
  | 0, x :: l, h => by simp at h
  | n + 1, x :: l, h => by
    have hd := drop_le x l
    simp only [List.length_cons] at h
    rw [joinF_cons, textsL_cons, joinF_texts n _ (by omega)]
    show textsL (x :: l.takeWhile (sameP x)) ++ textsL (l.dropWhile (sameP x)) = _
    rw [← textsL_append, List.cons_append, List.takeWhile_append_dropWhile]

theorem texts_mem {l : List Ed} {x : Ed} (h : x ∈ l) : x.s.size ≤ (textsL l).length := by
  induction l with
  | nil => simp at h
  | cons y l ih =>
    rw [textsL_cons, List.length_append]
    rcases List.mem_cons.1 h with rfl | h
    · simp
    · have := ih h; omega

end Go.Proofs.YtihnafocjognaaaGreatDoor
