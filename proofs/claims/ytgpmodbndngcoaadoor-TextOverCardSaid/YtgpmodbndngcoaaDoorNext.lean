import Derived.Test.YtgpmodbndngcoaaDoorStep
import Derived.Test.YtgpmodbndngcoaaDoorBuild
namespace Go.Proofs.YtgpmodbndngcoaaDoor
open Go.RowKit Go.Shelf

/-- the place of the first change from a place on, or the number of lines -/
def nextF : List St → Nat
  | [] => 0
  | t :: l => if t.m = 32 then nextF l + 1 else 0

theorem nextF_le : ∀ l, nextF l ≤ l.length
  | [] => Nat.le_refl _
  | t :: l => by unfold nextF; have := nextF_le l; split <;> simp; omega

set_option maxHeartbeats 1000000 in
set_option maxRecDepth 100000 in
theorem nextChange_any (A : Option Addr) (c : Nat) (l : List St) (k : Nat) (w : World) (hk : k ≤ l.length) (hl : l.length ≤ 1000000) (h : SSl w w.heap.size A l) :
    Calls Tryd.prog 108 #[.slice A l.length c, .int .i64 k] w fun e w' => e = .returned (.int .i64 (k + nextF (l.drop k) : Nat)) ∧ w = w' := by
  go_enter Tryd.func108, Tryd.ntmps108
  go_wp2
  go_loop [1] (fun i => ∃ q : Nat, q ≤ l.length ∧ i = .int .i64 q ∧ Hid (q + nextF (l.drop q) = k + nextF (l.drop k))) (fun i => l.length - (intOf i).toNat)
  case atStart => exact ⟨k, hk, rfl, rfl⟩
  case round =>
    obtain ⟨q, hq, rfl, hn⟩ := hrel
    by_cases hlt : q < l.length
    · obtain ⟨b, off, rfl, hB, c0, _⟩ := h.at_ q hlt
      have hs : nextF (l.drop q) = if l[q].m = 32 then nextF (l.drop (q + 1)) + 1 else 0 := by
        rw [List.drop_eq_getElem_cons hlt]; rfl
      have hn1 := hn.out
      rw [hs] at hn1
      have e1 := mark_eq l[q].m 32
      generalize l[q].m = m at *
      have HN := Lib.hid hn1
      clear hs hn hn1 h
      by_cases q1 : m = 32
      · subst q1
        go_wp2
        go_round
        case rel => exact ⟨q + 1, by omega, by go_num, by unfold Hid; have := HN.out; simp at this; omega⟩
        case measure => simp [intOf]; omega
      · have q1' : ((m.toNat : Int) == 32) = false := by have := e1; simp [q1] at this ⊢; omega
        have Q1 := Lib.hid q1
        clear q1 e1
        go_wp2
        go_ret
        have := HN.out
        rw [if_neg Q1.out] at this
        exact ⟨ret_int (by omega), rfl⟩
    · have hn1 := hn.out
      rw [List.drop_eq_nil_of_le (by omega)] at hn1
      have HN := Lib.hid hn1
      clear hn hn1 h
      go_wp2
      go_ret
      have := HN.out
      simp only [nextF] at this
      exact ⟨ret_int (by omega), rfl⟩

/-- one side of a head -/
def spanF (before n : Nat) : List UInt8 := Lib.itoa (if 0 < n then before + 1 else before : Nat) ++ 44 :: Lib.itoa n

theorem itoa_any (z : Int) (w : World) (h0 : 0 ≤ z) (hn : z ≤ 4000000) (ht : Tab w) :
    Calls Tryd.prog 134 #[.int .i64 z] w fun e w' => e = .returned (.string (ofL (Lib.itoa z))) ∧ ∃ k os, w' = Go.Sort.grow (w.drewN k) os :=
  Tryd.strconv_Itoa z (by omega) (by omega) w ht

theorem nDigits_le : ∀ (k u : Nat), u < 10 ^ (k + 1) → Lib.nDigits u ≤ k + 1
  | 0, u, h => by rw [Lib.nDigits, dif_pos (by simpa using h)]; exact Nat.le_refl _
  | k + 1, u, h => by
    rw [Lib.nDigits]
    split
    · omega
    · have : u / 10 < 10 ^ (k + 1) := by rw [Nat.pow_succ] at h; omega
      have := nDigits_le k (u / 10) this
      omega

theorem itoa_len (z : Int) (h0 : 0 ≤ z) (hz : z ≤ 4000000) : (ofL (Lib.itoa z)).size ≤ 7 := by
  obtain ⟨u, rfl⟩ := Int.eq_ofNat_of_zero_le h0
  have h : Lib.nDigits u ≤ 7 := nDigits_le 6 u (by omega)
  rw [Lib.itoa_nonneg]
  show (Lib.decDigits u).toArray.size ≤ 7
  rw [List.size_toArray, Lib.decDigits_length]
  exact h

theorem ofL_append (a b : List UInt8) : ofL a ++ ofL b = ofL (a ++ b) := by
  apply ofL_eq
  rw [ByteArray.data_append]
  simp [ofL]

theorem below_grow (w : World) (k : Nat) (os : Array Obj) : Below w.heap.size w (Go.Sort.grow (w.drewN k) os) :=
  ⟨rfl, rfl, rfl, by show w.heap.size ≤ (w.heap ++ os).size; simp, fun i hi => by show (w.heap ++ os)[i]? = _; rw [Array.getElem?_append_left hi]⟩

theorem grow_twice (w : World) (k q : Nat) (os os' : Array Obj) : Go.Sort.grow ((Go.Sort.grow (w.drewN k) os).drewN q) os' = Go.Sort.grow (w.drewN (k + q)) (os ++ os') := by
  show Go.Sort.grow (Go.Sort.grow ((w.drewN k).drewN q) os) os' = _
  rw [Go.Sort.grow_grow, World.drewN_drewN]

set_option maxHeartbeats 1000000 in
set_option maxRecDepth 100000 in
theorem writeSpan_any (b n : Nat) (w : World) (hb : b ≤ 1000000) (hn : n ≤ 1000000) (ht : Tab w) :
    Calls Tryd.prog 105 #[.int .i64 b, .int .i64 n] w fun e w' => e = .returned (.string (ofL (spanF b n))) ∧ ∃ k os, w' = Go.Sort.grow (w.drewN k) os := by
  have HT := Lib.hid ht
  clear ht
  by_cases hn0 : 0 < n
  · have l1 := itoa_len (b + 1) (by omega) (by omega)
    have l2 := itoa_len n (by omega) (by omega)
    go_enter Tryd.func105, Tryd.ntmps105
    go_wp2_with fail
    refine (itoa_any _ _ (by omega) (by omega) HT.out).mono ?_
    rintro e w1 ⟨rfl, k1, os1, rfl⟩
    have HT1 := Lib.hid (HT.out.below (below_grow w k1 os1))
    go_wp2_with fail
    refine (itoa_any _ _ (by omega) (by omega) HT1.out).mono ?_
    rintro e w2 ⟨rfl, k2, os2, rfl⟩
    go_wp2
    go_ret
    refine ⟨ret_str ?_, k1 + k2, os1 ++ os2, grow_twice _ _ _ _ _⟩
    show ofL _ ++ ofL [44] ++ ofL _ = _
    rw [ofL_append, ofL_append, spanF, if_pos hn0, List.append_assoc]
    rfl
  · have l1 := itoa_len b (by omega) (by omega)
    have l2 := itoa_len n (by omega) (by omega)
    go_enter Tryd.func105, Tryd.ntmps105
    go_wp2_with fail
    refine (itoa_any _ _ (by omega) (by omega) HT.out).mono ?_
    rintro e w1 ⟨rfl, k1, os1, rfl⟩
    have HT1 := Lib.hid (HT.out.below (below_grow w k1 os1))
    go_wp2_with fail
    refine (itoa_any _ _ (by omega) (by omega) HT1.out).mono ?_
    rintro e w2 ⟨rfl, k2, os2, rfl⟩
    go_wp2
    go_ret
    refine ⟨ret_str ?_, k1 + k2, os1 ++ os2, grow_twice _ _ _ _ _⟩
    show ofL _ ++ ofL [44] ++ ofL _ = _
    rw [ofL_append, ofL_append, spanF, if_neg (by omega), List.append_assoc]
    rfl

end Go.Proofs.YtgpmodbndngcoaaDoor
