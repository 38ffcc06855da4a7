/- joined: edits that have no bytes and stand at one place, made one. -/
import Derived.Test.YtihnafocjognaaaGreatDoorEd
import Derived.Test.YtihnafocjognaaaGreatDoorBuilder
import Derived.RegionTactic
import Derived.Deep.AppendLies
namespace Go.Proofs.YtihnafocjognaaaGreatDoor
open Go.RowKit Go.Maps

theorem take_tw (p : Ed → Bool) (r : List Ed) : r.take (r.takeWhile p).length = r.takeWhile p := by
  have h := List.takeWhile_append_dropWhile (p := p) (l := r)
  have h2 : (r.takeWhile p ++ r.dropWhile p).take (r.takeWhile p).length = r.takeWhile p := List.take_left
  rwa [h] at h2
theorem drop_tw (p : Ed → Bool) (r : List Ed) : r.drop (r.takeWhile p).length = r.dropWhile p := by
  have h := List.takeWhile_append_dropWhile (p := p) (l := r)
  have h2 : (r.takeWhile p ++ r.dropWhile p).drop (r.takeWhile p).length = r.dropWhile p := List.drop_left
  rwa [h] at h2

theorem own_below {w w' : World} {base k n : Nat} {e : TypeId} {v : Value} {xs : List Value} (h : w.ownsRow base e k v n xs) (hb : Below w.heap.size w w') : w'.ownsRow base e k v n xs :=
  h.kept (row := none) ⟨hb.os, hb.tape, hb.output, hb.size, fun j hj _ => hb.block j hj⟩ (by cases hv : Value.ownBlock v <;> simp)

theorem textsL_take (l : List Ed) (k : Nat) (h : k < l.length) : textsL (l.take (k + 1)) = textsL (l.take k) ++ l[k].s.data.toList := by
  rw [List.take_succ_eq_append_getElem h, textsL_append, textsL_cons]; simp [textsL]

theorem textsL_take_le (l : List Ed) (k : Nat) : (textsL (l.take k)).length ≤ (textsL l).length := by
  have : textsL l = textsL (l.take k) ++ textsL (l.drop k) := by rw [← textsL_append, List.take_append_drop]
  rw [this, List.length_append]; omega

theorem textsL_drop_le (l : List Ed) (k : Nat) : (textsL (l.drop k)).length ≤ (textsL l).length := by
  have : textsL l = textsL (l.take k) ++ textsL (l.drop k) := by rw [← textsL_append, List.take_append_drop]
  rw [this, List.length_append]; omega

end Go.Proofs.YtihnafocjognaaaGreatDoor
