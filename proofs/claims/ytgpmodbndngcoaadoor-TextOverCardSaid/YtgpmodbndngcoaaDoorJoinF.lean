/- Plain: edits that are joined. -/
import Derived.Test.YtgpmodbndngcoaaDoorSame
namespace Go.Proofs.YtgpmodbndngcoaaDoor
open Go.RowKit

def textsL (l : List Ed) : List UInt8 := l.flatMap fun x => x.s.data.toList

theorem textsL_cons (x : Ed) (l : List Ed) : textsL (x :: l) = x.s.data.toList ++ textsL l := by simp [textsL]
theorem textsL_append (a b : List Ed) : textsL (a ++ b) = textsL a ++ textsL b := by simp [textsL]

/-- edits that have no bytes and stand at one place, one behind the other, made one -/
def joinF : List Ed → List Ed
  | [] => []
  | x :: l => ⟨x.f, x.t, ⟨(textsL (x :: l.takeWhile (sameP x))).toArray⟩⟩ :: joinF (l.dropWhile (sameP x))
termination_by l => l.length
decreasing_by
  have := (List.dropWhile_sublist (sameP x) (l := l)).length_le
  simp; omega

theorem joinF_cons (x : Ed) (l : List Ed) : joinF (x :: l) = ⟨x.f, x.t, ⟨(textsL (x :: l.takeWhile (sameP x))).toArray⟩⟩ :: joinF (l.dropWhile (sameP x)) := by rw [joinF]

theorem joinF_nil : joinF [] = [] := by rw [joinF]

theorem drop_le (x : Ed) (l : List Ed) : (l.dropWhile (sameP x)).length ≤ l.length := (List.dropWhile_sublist (sameP x) (l := l)).length_le

theorem joinF_length : ∀ (n : Nat) (l : List Ed), l.length ≤ n → (joinF l).length ≤ l.length
  | _, [], _ => by rw [joinF_nil]; exact Nat.le_refl _
  | 0, x :: l, h => by simp at h
  | n + 1, x :: l, h => by
    rw [joinF_cons]
    have h1 := drop_le x l
    simp only [List.length_cons] at h ⊢
    have := joinF_length n (l.dropWhile (sameP x)) (by omega)
    omega

theorem mem_takeWhile {x y : Ed} : ∀ {l : List Ed}, y ∈ l.takeWhile (sameP x) → sameP x y = true
  | [], h => by simp at h
  | z :: l, h => by
    rw [List.takeWhile_cons] at h
    by_cases g : sameP x z = true
    · rw [if_pos g, List.mem_cons] at h
      rcases h with rfl | h
      · exact g
      · exact mem_takeWhile h
    · rw [if_neg g] at h; simp at h


end Go.Proofs.YtgpmodbndngcoaaDoor
