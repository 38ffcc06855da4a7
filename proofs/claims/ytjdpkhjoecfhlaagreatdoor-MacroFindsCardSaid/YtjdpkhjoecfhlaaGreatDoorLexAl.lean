/- Lex, in the document: all tokens; what its loop's flag is (plain). -/
import Derived.Test.YtjdpkhjoecfhlaaGreatDoorLexZt
namespace Go.Proofs.YtjdpkhjoecfhlaaGreatDoor
open Go.RowKit Go.Maps Go.Shelf

/-- the flag behind a piece, as the document says it -/
theorem piece_flag (f : Bool) (c : UInt8) (l : List UInt8) (h : (pieceF f (c :: l)).1 ≠ 0) :
    (pieceF f (c :: l)).2 = if (pieceF f (c :: l)).1 = 1 ∧ 11 ≤ c.toNat ∧ c.toNat ≤ 13 then false else (f || ((c :: l).take (pieceF f (c :: l)).1).contains 10) := by
  rw [pieceF] at h ⊢
  by_cases h1 : c.toNat = 32 ∨ c.toNat = 9
  · rw [if_pos h1]
    have : ¬ c = 10 := fun g => by rw [g] at h1; exact absurd h1 (by decide)
    rw [if_neg (by simp only [true_and]; omega)]
    simp [Ne.symm this]
  · rw [if_neg h1] at h ⊢
    by_cases h2 : c.toNat = 10
    · have e : c = 10 := UInt8.toNat_inj.1 h2
      subst e
      rw [if_pos h2]
      simp
    · rw [if_neg h2] at h ⊢
      by_cases h3 : c.toNat = 11 ∨ c.toNat = 12 ∨ c.toNat = 13
      · rw [if_pos h3, if_pos (by simp only [true_and]; omega)]
      · rw [if_neg h3] at h ⊢
        by_cases h4 : c.toNat = 92
        · have e : c = 92 := UInt8.toNat_inj.1 h4
          subst e
          rw [if_pos h4] at h ⊢
          simp only at h ⊢
          have hj : ∃ r, l = 10 :: r ∨ l = 13 :: 10 :: r := by
            unfold joinN at h
            split at h
            · rename_i r e; exact ⟨r, .inl (by simpa using e)⟩
            · rename_i r e; exact ⟨r, .inr (by simpa using e)⟩
            · exact absurd rfl h
          obtain ⟨r, rfl | rfl⟩ := hj
          · simp [joinN]
          · simp [joinN]
        · rw [if_neg h4] at h ⊢
          by_cases h5 : c.toNat = 47
          · rw [if_pos h5] at h ⊢
            simp only
            rw [if_neg (fun g => by omega)]
          · rw [if_neg h5] at h
            exact absurd rfl h
theorem piece_none (f : Bool) (l : List UInt8) (h : (pieceF f l).1 = 0) : (pieceF f l).2 = f ∨ l.head? = some 92 := by
  cases l with
  | nil => exact .inl rfl
  | cons c l =>
    rw [pieceF] at h ⊢
    by_cases h1 : c.toNat = 32 ∨ c.toNat = 9
    · rw [if_pos h1] at h; simp at h
    · rw [if_neg h1] at h ⊢
      by_cases h2 : c.toNat = 10
      · rw [if_pos h2] at h; simp at h
      · rw [if_neg h2] at h ⊢
        by_cases h3 : c.toNat = 11 ∨ c.toNat = 12 ∨ c.toNat = 13
        · rw [if_pos h3] at h; simp at h
        · rw [if_neg h3] at h ⊢
          by_cases h4 : c.toNat = 92
          · have e : c = 92 := UInt8.toNat_inj.1 h4
            exact .inr (by rw [e]; rfl)
          · rw [if_neg h4] at h ⊢
            by_cases h5 : c.toNat = 47
            · rw [if_pos h5] at h ⊢
              simp only at h
              rw [h]
              exact .inl (by simp)
            · rw [if_neg h5]; exact .inl rfl
theorem tokF_flag (f g : Bool) (l : List UInt8) (h : l.head? ≠ some 35) : tokF f l = tokF g l := by
  unfold tokF
  have h1 : ¬ (f = true ∧ l.head? = some 35) := fun k => h k.2
  have h2 : ¬ (g = true ∧ l.head? = some 35) := fun k => h k.2
  simp only [if_neg h1, if_neg h2]
/-- the token behind what stands before it does not ask whose flag it is, where no piece is left -/
theorem tok_flag (f : Bool) (l : List UInt8) (h : (pieceF f l).1 = 0) : tokF (pieceF f l).2 l = tokF f l := by
  rcases piece_none f l h with e | e
  · rw [e]
  · exact tokF_flag _ _ _ (by rw [e]; decide)

end Go.Proofs.YtjdpkhjoecfhlaaGreatDoor
