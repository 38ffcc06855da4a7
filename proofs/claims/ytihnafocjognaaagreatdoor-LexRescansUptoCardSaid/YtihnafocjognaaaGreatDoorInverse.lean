/- Inverse: the edits of the new text that make the old one. -/
import Derived.Test.YtihnafocjognaaaGreatDoorApp
import Derived.Test.YtihnafocjognaaaGreatDoorJoin
import Derived.Deep.RegionHeld3
import Derived.IntWalk
namespace Go.Proofs.YtihnafocjognaaaGreatDoor
open Go.RowKit Go.Maps

theorem invF_snoc (s : ByteArray) : ∀ (l : List Ed) (m : Int) (k : Nat) (h : k < l.length), invF s m (l.take (k + 1)) = invF s m (l.take k) ++ [⟨l[k].f + (m + gsum (l.take k)), l[k].f + (m + gsum (l.take k)) + l[k].s.size, s.extract l[k].f.toNat l[k].t.toNat⟩]
  | [], _, _, h => by simp at h
  | x :: l, m, 0, _ => by simp [invF, gsum]
  | x :: l, m, k + 1, h => by
    have ih := invF_snoc s l (m + (x.s.size - (x.t - x.f))) k (by simpa using h)
    simp only [List.take_succ_cons, invF, List.getElem_cons_succ, gsum, List.cons_append] at ih ⊢
    rw [ih, show m + (x.s.size - (x.t - x.f)) + gsum (l.take k) = m + (x.s.size - (x.t - x.f) + gsum (l.take k)) by omega]

theorem invF_texts (s : ByteArray) : ∀ (l : List Ed) (m : Int), (textsL (invF s m l)).length ≤ l.length * s.size
  | [], _ => by simp [invF, textsL]
  | x :: l, m => by
    have ih := invF_texts s l (m + (x.s.size - (x.t - x.f)))
    have := extract_size s x.f.toNat x.t.toNat
    rw [invF, textsL_cons, List.length_append, List.length_cons, Nat.succ_mul, size_toL]
    simp only
    omega

end Go.Proofs.YtihnafocjognaaaGreatDoor
