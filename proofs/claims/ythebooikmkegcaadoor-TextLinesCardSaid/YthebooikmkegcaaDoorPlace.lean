/- Place: the line and column of a byte, in the program and in the document. -/
import Derived.Test.YthebooikmkegcaaDoorLines
import Derived.Lib.LastIndexByte
namespace Go.Proofs.YthebooikmkegcaaDoor
open Go.RowKit

/-- how many line feeds stand in the first k bytes -/
def feeds (s : ByteArray) (k : Nat) : Nat := (s.data.toList.take k).count 10
/-- how far byte k is from its line's beginning -/
def colN (s : ByteArray) (k : Nat) : Int := k - (Lib.lastIdx s 10 k + 1)

theorem byte_toInt (c : UInt8) : ((c.toNat : Int) = 10) ↔ c = 10 := by
  constructor
  · intro h
    have : c.toNat = (10 : UInt8).toNat := by simp; omega
    exact UInt8.toNat_inj.1 this
  · rintro rfl; rfl

theorem feeds_step (s : ByteArray) (k : Nat) (h : k < s.size) : feeds s (k + 1) = feeds s k + if s.data[k] = 10 then 1 else 0 := by
  unfold feeds
  have hl : k < s.data.toList.length := by simpa using h
  rw [List.take_succ_eq_append_getElem hl, List.count_append]
  congr 1
  simp [List.count_singleton]

theorem ret_three {a b c d e f : Value} (h : a = d) (k : b = e) (l : c = f) : Ending.returned (.tuple #[a, b, c]) = .returned (.tuple #[d, e, f]) := by rw [h, k, l]

theorem feeds_le (s : ByteArray) (k : Nat) : feeds s k ≤ k := by
  unfold feeds
  have h1 := List.count_le_length (a := (10 : UInt8)) (l := s.data.toList.take k)
  rw [List.length_take] at h1
  omega

theorem lastIdx_step (s : ByteArray) (k : Nat) (h : k < s.size) : Lib.lastIdx s 10 (k + 1) = if s.data[k] = 10 then (k : Int) else Lib.lastIdx s 10 k := by
  rw [Lib.lastIdx]
  have e : s.data[k]! = s.data[k] := by
    have hl : k < s.data.size := h
    exact getElem!_pos s.data k hl
  simp only [e, byte_toInt]

theorem colN_step (s : ByteArray) (k : Nat) (h : k < s.size) : colN s (k + 1) = if s.data[k] = 10 then 0 else colN s k + 1 := by
  unfold colN
  rw [lastIdx_step s k h]
  split <;> omega

theorem lastIdx_range (s : ByteArray) : ∀ k : Nat, -1 ≤ Lib.lastIdx s 10 k ∧ Lib.lastIdx s 10 k < k
  | 0 => by simp [Lib.lastIdx]
  | k + 1 => by
    have := lastIdx_range s k
    rw [Lib.lastIdx]
    split <;> omega

theorem lastIdx_extract (s : ByteArray) (n : Nat) (hn : n ≤ s.size) : ∀ k, k ≤ n → Lib.lastIdx (s.extract 0 n) 10 k = Lib.lastIdx s 10 k
  | 0, _ => by simp [Lib.lastIdx]
  | k + 1, hk => by
    have h1 : (s.extract 0 n).size = n := by simp; omega
    rw [lastIdx_step _ k (by omega), lastIdx_step s k (by omega), lastIdx_extract s n hn k (by omega)]
    have e : (s.extract 0 n).data[k]'(by have := h1; simp at this; simp; omega) = s.data[k]'(by have : s.data.size = s.size := rfl; omega) := by
      simp [ByteArray.extract, ByteArray.copySlice]
    rw [e]

/-- the line, the column and the error of a place -/
def placeV (s : ByteArray) (at_ : Int) : Value := if 0 ≤ at_ ∧ at_ ≤ s.size then .tuple #[.int .i64 (feeds s at_.toNat + 1), .int .i64 (colN s at_.toNat), .int .i64 0] else .tuple #[.int .i64 0, .int .i64 0, .int .i64 1]

set_option maxHeartbeats 1000000 in
set_option maxRecDepth 100000 in
theorem place_any (s : ByteArray) (at_ : Int) (w : World) (hs : s.size ≤ 8000000) (h1 : -9223372036854775808 ≤ at_) (h2 : at_ ≤ 9223372036854775807) :
    Calls Tryd.prog 9 #[.string s, .int .i64 at_] w fun e w' => e = .returned (placeV s at_) ∧ Below w.heap.size w w' := by
  by_cases q : 0 ≤ at_ ∧ at_ ≤ s.size
  · unfold placeV
    rw [if_pos q]
    obtain ⟨q1, q2⟩ := q
    obtain ⟨n, rfl⟩ : ∃ n : Nat, at_ = n := ⟨at_.toNat, by omega⟩
    simp only [Int.toNat_natCast]
    have hn : n ≤ s.size := by omega
    have hsz : (s.extract 0 n).size = n := by simp; omega
    have hc := fun W => Tryd.strings_Count_one (s.extract 0 n) 10 W
    have hl := fun W => Tryd.strings_LastIndexByte (s.extract 0 n) 10 (by omega) W
    have e1 : Lib.countByte (s.extract 0 n).data.toList 10 = feeds s n := by
      unfold Lib.countByte feeds
      congr 1
      simp [ByteArray.extract, ByteArray.copySlice]
    have e2 : Lib.lastIndexByte (s.extract 0 n) 10 = Lib.lastIdx s 10 n := by
      unfold Lib.lastIndexByte
      rw [hsz, lastIdx_extract s n hn n (Nat.le_refl _)]
    rw [e2] at hl
    simp only [e1] at hc
    have hf := feeds_le s n
    have hr := lastIdx_range s n
    unfold colN
    generalize feeds s n = f at *
    generalize Lib.lastIdx s 10 n = r at *
    have HC := Lib.hid hc
    have HL := Lib.hid hl
    clear hc hl e1 e2
    go_enter Tryd.func9, Tryd.ntmps9
    go_wp2_with (first
      | (go_at_call 32; refine (HC.out _).mono ?_; rintro e w1 ⟨rfl, rfl⟩)
      | (go_at_call 33; refine (HL.out _).mono ?_; rintro e w1 ⟨rfl, rfl⟩))
    go_ret3
    exact ⟨ret_three (by go_num) (by go_num) rfl, Below.refl _ _⟩
  · unfold placeV
    rw [if_neg q]
    go_enter Tryd.func9, Tryd.ntmps9
    by_cases q1 : at_ < 0
    · clear q
      go_wp2
      go_ret3
      exact ⟨rfl, Below.refl _ _⟩
    · have q2 : (s.size : Int) < at_ := by omega
      clear q
      go_wp2
      go_ret3
      exact ⟨rfl, Below.refl _ _⟩

set_option maxHeartbeats 1000000 in
set_option maxRecDepth 100000 in
theorem refPlace_any (s : ByteArray) (at_ : Int) (w : World) (hs : s.size ≤ 8000000) (h1 : -9223372036854775808 ≤ at_) (h2 : at_ ≤ 9223372036854775807) :
    Calls Tryd.prog 10 #[.string s, .int .i64 at_] w fun e w' => e = .returned (placeV s at_) ∧ Below w.heap.size w w' := by
  by_cases q : 0 ≤ at_ ∧ at_ ≤ s.size
  · unfold placeV
    rw [if_pos q]
    obtain ⟨q1, q2⟩ := q
    obtain ⟨n, rfl⟩ : ∃ n : Nat, at_ = n := ⟨at_.toNat, by omega⟩
    simp only [Int.toNat_natCast]
    have hn : n ≤ s.size := by omega
    go_enter Tryd.func10, Tryd.ntmps10
    go_wp2
    go_loopw [7, 8, 9] (fun vl vc vi wr => ∃ k : Nat, k ≤ n ∧ vi = .int .i64 k ∧ vl = .int .i64 (feeds s k + 1) ∧ vc = .int .i64 (colN s k) ∧ wr = w) (fun _ _ vi _ => n - (intOf vi).toNat)
    case atStart => exact ⟨0, Nat.zero_le _, rfl, by simp [feeds], by simp [colN, Lib.lastIdx], rfl⟩
    case round =>
      obtain ⟨k, hk, rfl, rfl, rfl, rfl⟩ := hrel
      have hf := feeds_le s k
      have hr := lastIdx_range s k
      have hcr : 0 ≤ colN s k ∧ colN s k ≤ k := by unfold colN; omega
      clear hr
      by_cases hlt : k < n
      · have s1 := feeds_step s k (by omega)
        have s2 := colN_step s k (by omega)
        have hk2 : k < s.size := by omega
        have hbt := byte_toInt (s[k]'hk2)
        rw [show s.data[k] = s[k]'hk2 from rfl] at s1 s2
        generalize feeds s k = f at *
        generalize colN s k = cc at *
        obtain ⟨z1, z2⟩ := hcr
        by_cases hb : s[k]'hk2 = 10
        · rw [if_pos hb] at s1 s2
          have S1 := Lib.hid s1
          have S2 := Lib.hid s2
          have hb2 : (((s[k]'hk2).toNat : Int) == 10) = true := by simpa using hbt.2 hb
          clear s1 s2 hbt
          go_wp2
          go_roundw
          case rel => exact ⟨k + 1, by omega, by go_num, by rw [S1.out]; go_num, by rw [S2.out], trivial⟩
          case measure => simp [intOf]; omega
        · rw [if_neg hb] at s1 s2
          have S1 := Lib.hid s1
          have S2 := Lib.hid s2
          have hb2 : (((s[k]'hk2).toNat : Int) == 10) = false := by
            cases e : (((s[k]'hk2).toNat : Int) == 10)
            · rfl
            · exact absurd (hbt.1 (eq_of_beq e)) hb
          clear s1 s2 hbt
          go_wp2
          go_roundw
          case rel => exact ⟨k + 1, by omega, by go_num, by rw [S1.out]; simp, by rw [S2.out], trivial⟩
          case measure => simp [intOf]; omega
      · obtain rfl : k = n := by omega
        go_wp2
        go_ret3
        exact ⟨rfl, Below.refl _ _⟩
  · unfold placeV
    rw [if_neg q]
    go_enter Tryd.func10, Tryd.ntmps10
    by_cases q1 : at_ < 0
    · clear q
      go_wp2
      go_ret3
      exact ⟨rfl, Below.refl _ _⟩
    · have q2 : (s.size : Int) < at_ := by omega
      clear q
      go_wp2
      go_ret3
      exact ⟨rfl, Below.refl _ _⟩

end Go.Proofs.YthebooikmkegcaaDoor
