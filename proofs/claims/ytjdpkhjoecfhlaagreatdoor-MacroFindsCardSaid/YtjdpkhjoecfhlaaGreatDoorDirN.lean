/- Cond, plain: the document's way from # to #. Cond, plain: the document's words, from place to place. -/
import Derived.Test.YtjdpkhjoecfhlaaGreatDoorDirM

namespace Go.Proofs.YtjdpkhjoecfhlaaGreatDoor
open Go.RowKit

def sh (c : Nat) (t : Tk) : Tk := ⟨t.k, t.b, t.x, t.a + c⟩
theorem tokR_shift (c : Nat) : ∀ (n : Nat) (f : Bool) (a : Nat) (l : List UInt8), l.length < n → tokR f (a + c) l = (tokR f a l).map (sh c)
  | 0, _, _, _, h => absurd h (Nat.not_lt_zero _)
  | n + 1, f, a, l, h => by
    rw [tokR_step f (a + c), tokR_step f a]
    split
    · simp [endTk, sh, Nat.add_right_comm]
    · rename_i g
      have hl := left_less f l g
      have e := tokR_shift c n false (a + (skipF f l).1 + (tokF (skipF f l).2 (l.drop (skipF f l).1)).2) ((l.drop (skipF f l).1).drop (tokF (skipF f l).2 (l.drop (skipF f l).1)).2) (by omega)
      rw [List.map_cons, ← e]
      have e1 : theTk f (a + c) l = sh c (theTk f a l) := by
        simp [theTk, sh, Nat.add_right_comm]
      rw [e1, show a + c + (skipF f l).1 + (tokF (skipF f l).2 (l.drop (skipF f l).1)).2 = a + (skipF f l).1 + (tokF (skipF f l).2 (l.drop (skipF f l).1)).2 + c by omega]
theorem tok_len : ∀ (n : Nat) (f : Bool) (a : Nat) (l : List UInt8), l.length < n → (tokR f a l).length ≤ l.length + 1
  | 0, _, _, _, h => absurd h (Nat.not_lt_zero _)
  | n + 1, f, a, l, h => by
    rw [tokR_step]
    split
    · simp
    · rename_i g
      have h1 := left_less f l g
      have h2 := tok_len n false (a + (skipF f l).1 + (tokF (skipF f l).2 (l.drop (skipF f l).1)).2) _ (Nat.lt_of_lt_of_le h1 (Nat.le_of_lt_succ h))
      rw [List.length_cons]
      omega
theorem signN_59 (l : List UInt8) : signN (59 :: l) = 1 := by
  unfold signN signsL
  simp [signG, List.isPrefixOf]
theorem tok_semi (m : List UInt8) : tokR true 0 (59 :: m) = ⟨6, ⟨#[]⟩, ⟨#[59]⟩, 0⟩ :: tokR false 1 m := by
  have hp : (pieceF true (59 :: m)).1 = 0 := by simp [pieceF]
  have ht : tokF true (59 :: m) = (6, 1) := by
    rw [tokX true 59 m (fun g => absurd g.2 (by decide)) (by decide) (by rw [begNum_d]; simp [show isDig 59 = false by decide]) (by decide) (by decide), signN_59, if_pos (by decide)]
  rw [R_tok true 0 (59 :: m) hp (by simp), ht]
  rfl

/-- no line: all words -/
theorem seg_all (p : Nat) (m : List UInt8) (h : ∀ t ∈ tokR false p m, t.k ≠ 7) : tokR false p m = dirR p m := by
  rcases seg _ false p m (Nat.lt_succ_self _) with ⟨e, _⟩ | ⟨X, K, Y, q, e, _, h7, _⟩
  · exact e
  · exact absurd h7 (h K (by rw [e]; simp))
/-- the first line -/
theorem seg_first (p j : Nat) (m : List UInt8) (hj : j < (tokR false p m).length) (h7 : (tokR false p m)[j].k = 7) (h : ∀ t ∈ (tokR false p m).take j, t.k ≠ 7) :
    ∃ q, (tokR false p m)[j].a + 1 = p + q ∧ 1 ≤ q ∧ q ≤ m.length ∧ dirR p m = (tokR false p m).take j ++ ⟨6, (tokR false p m)[j].b, ⟨#[35]⟩, (tokR false p m)[j].a⟩ :: dirR ((tokR false p m)[j].a + 1) (m.drop q) := by
  rcases seg _ false p m (Nat.lt_succ_self _) with ⟨_, e⟩ | ⟨X, K, Y, q, e, hX, hK, ha, h1, h2, e2⟩
  · exact absurd h7 (e _ (List.getElem_mem hj))
  · generalize tokR false p m = Z at *
    subst e
    have hjx : j = X.length := by
      rcases Nat.lt_trichotomy j X.length with g | g | g
      · have : (X ++ K :: Y)[j] ∈ X := by rw [List.getElem_append_left g]; exact List.getElem_mem g
        exact absurd h7 (hX _ this)
      · exact g
      · have : K ∈ (X ++ K :: Y).take j := by
          rw [List.take_append, List.mem_append]
          refine .inr ?_
          rw [show j - X.length = (j - X.length - 1) + 1 by omega, List.take_succ_cons]
          simp
        exact absurd hK (h K this)
    subst hjx
    have e3 : (X ++ K :: Y)[X.length] = K := by simp
    rw [e3, List.take_left']
    · exact ⟨q, ha, h1, h2, e2⟩
    · rfl

end Go.Proofs.YtjdpkhjoecfhlaaGreatDoor

namespace Go.Proofs.YtjdpkhjoecfhlaaGreatDoor
open Go.RowKit

def nz (t : Tk) : Bool := t.k != 0
theorem nz_sh (c : Nat) (l : List Tk) : (l.map (sh c)).filter nz = (l.filter nz).map (sh c) := by
  induction l with
  | nil => rfl
  | cons t l ih =>
    rw [List.map_cons, List.filter_cons, List.filter_cons, ih]
    have : nz (sh c t) = nz t := rfl
    rw [this]
    split <;> rfl
/-- the words from place p on -/
def wFrom (l : List UInt8) (p : Nat) : List Tk := (dirR p (l.drop p)).filter nz
def row0 (l : List UInt8) (p : Nat) : List Tk := tokR false 0 (l.drop p)
theorem row_nice (l : List UInt8) (p : Nat) : tokR false p (l.drop p) = (row0 l p).map (sh p) := by
  have := tokR_shift p _ false 0 (l.drop p) (Nat.lt_succ_self _)
  rw [Nat.zero_add] at this
  exact this
theorem dir_split : ∀ (n a : Nat) (l : List UInt8), l.length < n → ∃ I e, dirR a l = I ++ [e] ∧ e.k = 0 ∧ ∀ t ∈ I, nz t = true
  | 0, _, _, h => absurd h (Nat.not_lt_zero _)
  | n + 1, a, l, h => by
    rw [dirR_step]
    split
    · exact ⟨[], _, rfl, rfl, by simp⟩
    · rename_i g
      have hl := dir_less l g
      obtain ⟨I, e, h1, h2, h3⟩ := dir_split n (a + (skipF true l).1 + (tokD (l.drop (skipF true l).1)).2) _ (Nat.lt_of_lt_of_le hl (Nat.le_of_lt_succ h))
      refine ⟨dirTk a l :: I, e, by rw [h1]; rfl, h2, fun t ht => ?_⟩
      rcases List.mem_cons.1 ht with rfl | ht
      · have := tokD_kind (l.drop (skipF true l).1)
        show ((tokD (l.drop (skipF true l).1)).1 != 0) = true
        simp
        omega
      · exact h3 t ht
theorem words_from (x : ByteArray) : wordsL x = wFrom (x.data.toList.drop 1) 0 := by
  unfold wordsL wFrom
  rw [List.drop_zero]
  obtain ⟨I, e, h1, h2, h3⟩ := dir_split _ 0 (x.data.toList.drop 1) (Nat.lt_succ_self _)
  rw [h1, List.dropLast_concat, List.filter_append, List.filter_eq_self.2 h3]
  have : nz e = false := by unfold nz; rw [h2]; rfl
  simp [this]
theorem from_all (l : List UInt8) (p : Nat) (h : ∀ t ∈ row0 l p, t.k ≠ 7) : wFrom l p = ((row0 l p).filter nz).map (sh p) := by
  unfold wFrom
  rw [← seg_all p (l.drop p) (by rw [row_nice]; intro t ht; obtain ⟨u, hu, rfl⟩ := List.mem_map.1 ht; exact h u hu), row_nice, nz_sh]
theorem from_first (l : List UInt8) (p j : Nat) (hp : p ≤ l.length) (hj : j < (row0 l p).length) (h7 : (row0 l p)[j].k = 7) (h : ∀ t ∈ (row0 l p).take j, t.k ≠ 7) :
    (row0 l p)[j].a + p + 1 ≤ l.length ∧ p < (row0 l p)[j].a + p + 1 ∧ wFrom l p = (((row0 l p).take j).filter nz).map (sh p) ++ ⟨6, (row0 l p)[j].b, ⟨#[35]⟩, (row0 l p)[j].a + p⟩ :: wFrom l ((row0 l p)[j].a + p + 1) := by
  have hj2 : j < (tokR false p (l.drop p)).length := by rw [row_nice, List.length_map]; exact hj
  have eg : (tokR false p (l.drop p))[j] = sh p (row0 l p)[j] := by simp only [row_nice, List.getElem_map]
  obtain ⟨q, h1, h2, h3, h4⟩ := seg_first p j (l.drop p) hj2 (by rw [eg]; exact h7) (by rw [row_nice, ← List.map_take]; intro t ht; obtain ⟨u, hu, rfl⟩ := List.mem_map.1 ht; exact h u hu)
  rw [eg] at h1 h4
  have ha : (sh p (row0 l p)[j]).a = (row0 l p)[j].a + p := rfl
  have hb : (sh p (row0 l p)[j]).b = (row0 l p)[j].b := rfl
  rw [ha] at h1 h4
  rw [hb] at h4
  rw [List.length_drop] at h3
  refine ⟨by omega, by omega, ?_⟩
  unfold wFrom
  rw [h4, row_nice, ← List.map_take, List.filter_append, nz_sh, List.drop_drop, show p + q = (row0 l p)[j].a + p + 1 by omega, List.filter_cons, if_pos (by rfl)]
theorem tok_a : ∀ (n : Nat) (f : Bool) (a : Nat) (l : List UInt8), l.length < n → ∀ t ∈ tokR f a l, t.a ≤ a + l.length
  | 0, _, _, _, h => absurd h (Nat.not_lt_zero _)
  | n + 1, f, a, l, h => by
    intro t ht
    rw [tokR_step] at ht
    have h0 := skipF_le f l
    split at ht
    · rw [List.mem_singleton.1 ht]
      show a + (skipF f l).1 ≤ _
      omega
    · rename_i g
      rcases List.mem_cons.1 ht with rfl | ht
      · show a + (skipF f l).1 ≤ _
        omega
      · have h1 := left_less f l g
        have h2 := tok_a n _ _ _ (by omega) t ht
        rw [List.length_drop, List.length_drop] at h2
        have h3 := tokF_le (skipF f l).2 (l.drop (skipF f l).1) (List.ne_nil_of_length_pos (by rw [List.length_drop]; omega))
        rw [List.length_drop] at h3
        omega
theorem semi_scan (L : ByteArray) (p : Nat) (hp : p ≤ L.size) (hL : L.size ≤ 20000) : ((⟨#[59]⟩ : ByteArray) ++ L.extract p L.size).size ≤ 20001 ∧ scanE ((⟨#[59]⟩ : ByteArray) ++ L.extract p L.size) = 0 ∧ scanL ((⟨#[59]⟩ : ByteArray) ++ L.extract p L.size) = ⟨6, ⟨#[]⟩, ⟨#[59]⟩, 0⟩ :: (row0 L.data.toList p).map (sh 1) := by
  have e : ((⟨#[59]⟩ : ByteArray) ++ L.extract p L.size).data.toList = 59 :: L.data.toList.drop p := by
    rw [ByteArray.data_append, Array.toList_append, Lib.extract_to_end]
    rfl
  have hs : ((⟨#[59]⟩ : ByteArray) ++ L.extract p L.size).size ≤ 20001 := by
    have h1 : ((⟨#[59]⟩ : ByteArray) ++ L.extract p L.size).data.toList.length = ((⟨#[59]⟩ : ByteArray) ++ L.extract p L.size).size := by rw [Array.length_toList]; rfl
    have h2 : L.data.toList.length = L.size := by simp
    rw [e, List.length_cons, List.length_drop, h2] at h1
    omega
  have et : tokR true 0 ((⟨#[59]⟩ : ByteArray) ++ L.extract p L.size).data.toList = ⟨6, ⟨#[]⟩, ⟨#[59]⟩, 0⟩ :: (row0 L.data.toList p).map (sh 1) := by
    rw [e, tok_semi]
    have := tokR_shift 1 _ false 0 (L.data.toList.drop p) (Nat.lt_succ_self _)
    rw [Nat.zero_add] at this
    rw [this]
    rfl
  have hl : (tokR true 0 ((⟨#[59]⟩ : ByteArray) ++ L.extract p L.size).data.toList).length ≤ 40000 := by
    have h1 := tok_len _ true 0 ((⟨#[59]⟩ : ByteArray) ++ L.extract p L.size).data.toList (Nat.lt_succ_self _)
    have h2 : ((⟨#[59]⟩ : ByteArray) ++ L.extract p L.size).data.toList.length = ((⟨#[59]⟩ : ByteArray) ++ L.extract p L.size).size := Array.length_toList
    omega
  have ok : scanOk ((⟨#[59]⟩ : ByteArray) ++ L.extract p L.size) = true := by
    unfold scanOk
    rw [decide_eq_true (by omega : ((⟨#[59]⟩ : ByteArray) ++ L.extract p L.size).size ≤ 200000), decide_eq_true hl]
    rfl
  unfold scanE scanL
  rw [if_pos ok, if_pos ok, et]
  exact ⟨hs, rfl, rfl⟩
theorem row_len (L : ByteArray) (p : Nat) : (row0 L.data.toList p).length ≤ L.size + 1 := by
  have h1 := tok_len _ false 0 (L.data.toList.drop p) (Nat.lt_succ_self _)
  have h2 : L.data.toList.length = L.size := by simp
  rw [List.length_drop, h2] at h1
  unfold row0
  omega
theorem row_a (L : ByteArray) (p : Nat) : ∀ t ∈ row0 L.data.toList p, t.a + p ≤ L.size + p ∧ t.a ≤ L.size := fun t ht => by
  have h1 := tok_a _ false 0 (L.data.toList.drop p) (Nat.lt_succ_self _) t ht
  have h2 : L.data.toList.length = L.size := by simp
  rw [List.length_drop, h2] at h1
  omega

end Go.Proofs.YtjdpkhjoecfhlaaGreatDoor
