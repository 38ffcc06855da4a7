/- The lines of a text, as lists of bytes. -/
import Derived.Test.YtgpmodbndngcoaaDoorPlain
import Derived.Lib.Bytealg
namespace Go.Proofs.YtgpmodbndngcoaaDoor
open Go.RowKit

/-- the lines of a text, each with its line feed -/
def linesL : List UInt8 → List (List UInt8)
  | [] => []
  | c :: s => if c = 10 then [c] :: linesL s else match linesL s with
    | [] => [[c]]
    | l :: r => (c :: l) :: r

def ofL (l : List UInt8) : ByteArray := ⟨l.toArray⟩
def linesB (s : ByteArray) : List ByteArray := (linesL s.data.toList).map ofL

theorem linesL_flat : ∀ s, (linesL s).flatten = s
  | [] => rfl
  | c :: s => by
    have ih := linesL_flat s
    unfold linesL
    by_cases h : c = 10
    · rw [if_pos h]; simp [ih]
    · rw [if_neg h]
      cases hl : linesL s with
      | nil => rw [hl] at ih; simp at ih; simp [← ih]
      | cons l r => rw [hl] at ih; simp at ih; simp [ih]

theorem linesL_ne : ∀ s, ∀ l ∈ linesL s, l ≠ []
  | [], l, h => by simp [linesL] at h
  | c :: s, l, h => by
    unfold linesL at h
    by_cases hc : c = 10
    · rw [if_pos hc] at h
      rcases List.mem_cons.1 h with rfl | h
      · simp
      · exact linesL_ne s l h
    · rw [if_neg hc] at h
      cases hl : linesL s with
      | nil => rw [hl] at h; simp at h; simp [h]
      | cons a r =>
        rw [hl] at h
        rcases List.mem_cons.1 h with rfl | h
        · simp
        · exact linesL_ne s l (by rw [hl]; simp [h])

theorem linesL_eq_nil {s : List UInt8} : linesL s = [] ↔ s = [] := by
  constructor
  · intro h
    have := linesL_flat s
    rw [h] at this
    exact this.symm
  · rintro rfl; rfl

/-- where the first line ends -/
def endL (s : List UInt8) : Nat := if Lib.indexByte s 10 < 0 then s.length else (Lib.indexByte s 10).toNat + 1

theorem endL_hit (s : List UInt8) : endL (10 :: s) = 1 := by simp [endL, Lib.indexByte]

theorem endL_miss {c : UInt8} (h : c ≠ 10) (s : List UInt8) : endL (c :: s) = endL s + 1 := by
  have hge := Lib.indexByte_ge s 10
  unfold endL
  simp only [Lib.indexByte, beq_iff_eq, h, if_false, List.length_cons]
  by_cases h1 : Lib.indexByte s 10 = -1
  · simp [h1]
  · rw [if_neg h1, if_neg (by omega), if_neg (by omega)]
    omega

theorem endL_le : ∀ s, s ≠ [] → 0 < endL s ∧ endL s ≤ s.length
  | [], h => absurd rfl h
  | c :: s, _ => by
    by_cases hc : c = 10
    · subst hc; rw [endL_hit]; simp
    · rw [endL_miss hc]
      cases s with
      | nil => simp [endL, Lib.indexByte]
      | cons d t =>
        have := endL_le (d :: t) (by simp)
        simp only [List.length_cons] at this ⊢
        omega

theorem linesL_cut : ∀ s, s ≠ [] → linesL s = s.take (endL s) :: linesL (s.drop (endL s))
  | [], h => absurd rfl h
  | c :: s, _ => by
    by_cases hc : c = 10
    · subst hc; rw [endL_hit]; simp [linesL]
    · rw [endL_miss hc, List.take_succ_cons, List.drop_succ_cons]
      conv => lhs; rw [linesL, if_neg hc]
      cases s with
      | nil => simp [linesL]
      | cons d t => rw [linesL_cut (d :: t) (by simp)]

theorem ofL_toList (l : List UInt8) : (ofL l).data.toList = l := by simp [ofL]
theorem ofL_eq {s : ByteArray} {l : List UInt8} (h : s.data.toList = l) : s = ofL l := by
  cases s; subst h; simp [ofL]
theorem ofL_self (s : ByteArray) : ofL s.data.toList = s := (ofL_eq rfl).symm

theorem linesB_cut (s : ByteArray) (h : 0 < s.size) : linesB s = s.extract 0 (endL s.data.toList) :: linesB (s.extract (endL s.data.toList) s.size) ∧ 0 < endL s.data.toList ∧ endL s.data.toList ≤ s.size := by
  have hl : s.data.toList.length = s.size := by simp
  have hne : s.data.toList ≠ [] := fun e => by rw [e] at hl; simp at hl; omega
  obtain ⟨h1, h2⟩ := endL_le _ hne
  refine ⟨?_, h1, by omega⟩
  unfold linesB
  rw [linesL_cut _ hne, List.map_cons]
  congr 1
  · symm
    apply ofL_eq
    rw [ByteArray.data_extract, Array.toList_extract]
    simp [List.extract]
  · congr 2
    rw [ByteArray.data_extract, Array.toList_extract]
    simp only [List.extract]
    rw [List.take_of_length_le (by simp)]

theorem linesB_nil {s : ByteArray} (h : s.size = 0) : linesB s = [] := by
  have hl : s.data.toList.length = s.size := by simp
  have : s.data.toList = [] := List.eq_nil_of_length_eq_zero (by omega)
  simp [linesB, this, linesL]

end Go.Proofs.YtgpmodbndngcoaaDoor
