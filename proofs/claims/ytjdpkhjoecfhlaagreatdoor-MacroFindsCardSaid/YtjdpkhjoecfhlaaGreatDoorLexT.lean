/- Lex, in the document: bytes, comments, what stands before tokens. -/
import Derived.Test.YtjdpkhjoecfhlaaGreatDoorLexI
namespace Go.Proofs.YtjdpkhjoecfhlaaGreatDoor
open Go.RowKit Go.Maps Go.Shelf

def headN : List UInt8 → Nat
  | [] => 0
  | c :: _ => c.toNat

set_option maxHeartbeats 1000000 in
set_option maxRecDepth 100000 in
theorem byteAt_any (s : ByteArray) (k : Nat) (w : World) (_hs : s.size ≤ 140737488355328) : Calls Tryz.prog 150 #[.string s, .int .i64 k] w fun e w' => e = .returned (.int .u8 (headN (s.data.toList.drop k))) ∧ w' = w := by
  by_cases h : k < s.size
  · rw [drop_at s k h]
    have h1 : ¬ (s.size : Int) ≤ k := by omega
    have h2 : (k : Int) < s.size := by omega
    have h3 : ¬ (k : Int) < 0 := by omega
    go_enter Tryz.func150, Tryz.ntmps150
    go_wp2
    go_ret
    exact ⟨rfl, rfl⟩
  · have hd : s.data.toList.drop k = [] := List.drop_eq_nil_of_le (by simp; omega)
    rw [hd]
    have h1 : (s.size : Int) ≤ k := by omega
    have h3 : ¬ (k : Int) < 0 := by omega
    go_enter Tryz.func150, Tryz.ntmps150
    go_wp2
    go_ret
    exact ⟨rfl, rfl⟩

theorem ext_pre (s t : ByteArray) (k : Nat) (_h : k + t.size ≤ s.size) : s.extract k (k + t.size) = t ↔ t.data.toList.isPrefixOf (s.data.toList.drop k) = true := by
  have e : (s.extract k (k + t.size)).data.toList = (s.data.toList.drop k).take t.size := by
    rw [ByteArray.data_extract, Array.toList_extract]; simp [List.extract]
  have ht : t.data.toList.length = t.size := by simp
  rw [List.isPrefixOf_iff_prefix, List.prefix_iff_eq_take, ht, ← e]
  constructor
  · intro g; rw [g]
  · intro g
    apply ByteArray.ext
    exact (Array.toList_inj.1 g).symm

set_option maxHeartbeats 1000000 in
set_option maxRecDepth 100000 in
theorem begins_any (s t : ByteArray) (k : Nat) (hk : k ≤ s.size) (w : World) (hs : s.size ≤ 140737488355328) (ht : t.size ≤ 140737488355328) :
    Calls Tryz.prog 206 #[.string s, .int .i64 k, .string t] w fun e w' => e = .returned (.bool (t.data.toList.isPrefixOf (s.data.toList.drop k))) ∧ w' = w := by
  by_cases h : k + t.size ≤ s.size
  · have hp := ext_pre s t k h
    have h1 : (t.size : Int) ≤ s.size - k := by omega
    have hw : IntKind.i64.wrap ((k : Int) + t.size) = k + t.size := IntWalk.i64_in _ (by omega)
    have hw2 : IntKind.i64.wrap ((s.size : Int) - k) = s.size - k := IntWalk.i64_in _ (by omega)
    cases hb : t.data.toList.isPrefixOf (s.data.toList.drop k)
    · have hn : ¬ s.extract k (k + t.size) = t := fun g => by rw [hp.1 g] at hb; cases hb
      have hn2 : ((s.extract k (k + t.size)).toList == t.toList) = false := by
        rw [beq_eq_false_iff_ne, ByteArray.toList_eq, ByteArray.toList_eq]
        exact fun g => hn (ByteArray.ext (Array.toList_inj.1 g))
      clear hp hb
      go_enter Tryz.func206, Tryz.ntmps206
      go_wp2
      go_ret
      exact ⟨rfl, rfl⟩
    · have hn : s.extract k (k + t.size) = t := hp.2 hb
      clear hp hb
      go_enter Tryz.func206, Tryz.ntmps206
      go_wp2
      go_ret
      exact ⟨rfl, rfl⟩
  · have hb : t.data.toList.isPrefixOf (s.data.toList.drop k) = false := by
      cases hb : t.data.toList.isPrefixOf (s.data.toList.drop k) with
      | false => rfl
      | true =>
        have := (List.isPrefixOf_iff_prefix.1 hb).length_le
        rw [List.length_drop] at this
        simp at this
        omega
    rw [hb]
    have h1 : ¬ (t.size : Int) ≤ s.size - k := by omega
    have hw2 : IntKind.i64.wrap ((s.size : Int) - k) = s.size - k := IntWalk.i64_in _ (by omega)
    clear hb
    go_enter Tryz.func206, Tryz.ntmps206
    go_wp2
    go_ret
    exact ⟨rfl, rfl⟩

set_option maxHeartbeats 1000000 in
set_option maxRecDepth 100000 in
theorem comment_any (s : ByteArray) (k : Nat) (hk : k ≤ s.size) (w : World) (hs : s.size ≤ 140737488355328) :
    Calls Tryz.prog 151 #[.string s, .int .i64 k] w fun e w' => e = .returned (.int .i64 (k + comN (s.data.toList.drop k) : Nat)) ∧ w' = w := by
  have B1 := begins_any s ⟨#[47, 47]⟩ k hk w hs (by decide)
  have B2 := begins_any s ⟨#[47, 42]⟩ k hk w hs (by decide)
  have B3 := fun i hi => begins_any s ⟨#[42, 47]⟩ i hi w hs (by decide)
  rw [comN_pre]
  unfold Lib.hasPrefix
  simp only at B1 B2 B3
  have HB3 := Lib.hid B3
  have HS := Lib.hid hs
  clear B3
  cases b1 : [47, 47].isPrefixOf (s.data.toList.drop k)
  · rw [b1] at B1
    cases b2 : [47, 42].isPrefixOf (s.data.toList.drop k)
    · rw [b2] at B2
      have HB1 := Lib.hid B1
      have HB2 := Lib.hid B2
      clear B1 B2 b1 b2
      go_enter Tryz.func151, Tryz.ntmps151
      go_wp2_with fail
      refine HB1.out.mono ?_
      rintro e w1 ⟨rfl, rfl⟩
      go_wp2_with fail
      refine HB2.out.mono ?_
      rintro e w1 ⟨rfl, rfl⟩
      go_wp2
      go_ret
      exact ⟨retI (by simp), rfl⟩
    · rw [b2] at B2
      have HB1 := Lib.hid B1
      have HB2 := Lib.hid B2
      have hl2 : k + 2 ≤ s.size := by
        have := (List.isPrefixOf_iff_prefix.1 b2).length_le
        rw [List.length_drop] at this
        simp at this
        omega
      clear B1 B2 b1 b2
      go_enter Tryz.func151, Tryz.ntmps151
      go_wp2_with fail
      refine HB1.out.mono ?_
      rintro e w1 ⟨rfl, rfl⟩
      go_wp2_with fail
      refine HB2.out.mono ?_
      rintro e w1 ⟨rfl, rfl⟩
      go_wp2_with fail
      go_loopw [5] (fun vi wr => ∃ i : Nat, k + 2 ≤ i ∧ i ≤ s.size ∧ vi = .int .i64 i ∧ Hid (i + starT (s.data.toList.drop i) = k + 2 + starT (s.data.toList.drop (k + 2))) ∧ wr = w1) (fun vi _ => s.size - (intOf vi).toNat)
      case atStart => exact ⟨k + 2, Nat.le_refl _, hl2, by go_num, rfl, rfl⟩
      case round =>
        obtain ⟨i, hi1, hi2, rfl, hT, rfl⟩ := hrel
        by_cases hlt : i < s.size
        · have hltI : (i : Int) < s.size := by omega
          have hst := hT.out
          have B := HB3.out i hi2
          have hd := drop_at s i hlt
          cases b3 : [42, 47].isPrefixOf (s.data.toList.drop i)
          · rw [b3] at B
            have hst2 : i + 1 + starT (s.data.toList.drop (i + 1)) = k + 2 + starT (s.data.toList.drop (k + 2)) := by
              rw [← hst, hd]
              rw [hd] at b3
              cases hr : s.data.toList.drop (i + 1) with
              | nil => simp [starT]
              | cons d r =>
                rw [hr] at b3
                have : ¬ (s[i].toNat = 42 ∧ d.toNat = 47) := by
                  rintro ⟨e1, e2⟩
                  have e1' : s[i] = 42 := UInt8.toNat_inj.1 e1
                  have e2' : d = 47 := UInt8.toNat_inj.1 e2
                  rw [e1', e2'] at b3
                  simp [List.isPrefixOf] at b3
                rw [starT, if_neg this]
                omega
            have HST := Lib.hid hst2
            have HB := Lib.hid B
            clear hst hst2 B b3 hd hT
            go_wp2_with fail
            refine HB.out.mono ?_
            rintro e w2 ⟨rfl, rfl⟩
            go_wp2
            go_roundw
            case rel => exact ⟨i + 1, by omega, by omega, by go_num, HST.out, trivial⟩
            case measure => simp [intOf]; omega
          · rw [b3] at B
            have hst2 : i + 2 = k + 2 + starT (s.data.toList.drop (k + 2)) := by
              rw [← hst]
              obtain ⟨t, ht⟩ := List.isPrefixOf_iff_prefix.1 b3
              rw [← ht]
              simp [starT]
            have HST := Lib.hid hst2
            have HB := Lib.hid B
            clear hst hst2 B b3 hd hT
            go_wp2_with fail
            refine HB.out.mono ?_
            rintro e w2 ⟨rfl, rfl⟩
            go_wp2
            go_ret
            exact ⟨retI (by have := HST.out; omega), rfl⟩
        · obtain rfl : i = s.size := by omega
          have hst := hT.out
          rw [drop_all] at hst
          simp only [starT] at hst
          have HST := Lib.hid hst
          have hnl : ¬ (s.size : Int) < s.size := by omega
          clear hst hT
          go_wp2
          go_ret
          exact ⟨retI (by have := HST.out; omega), rfl⟩
  · rw [b1] at B1
    have HB1 := Lib.hid B1
    clear B1 B2 b1
    go_enter Tryz.func151, Tryz.ntmps151
    go_wp2_with fail
    refine HB1.out.mono ?_
    rintro e w1 ⟨rfl, rfl⟩
    go_wp2_with fail
    go_loopw [1] (fun vi wr => ∃ i : Nat, i ≤ s.size ∧ vi = .int .i64 i ∧ Hid (i + upTo (s.data.toList.drop i) = k + upTo (s.data.toList.drop k)) ∧ wr = w1) (fun vi _ => s.size - (intOf vi).toNat)
    case atStart => exact ⟨k, hk, rfl, rfl, rfl⟩
    case round =>
      obtain ⟨i, hi2, rfl, hT, rfl⟩ := hrel
      by_cases hlt : i < s.size
      · have hltI : (i : Int) < s.size := by omega
        have hst := hT.out
        rw [drop_at s i hlt, upTo] at hst
        by_cases h10 : (s[i]'hlt).toNat = 10
        · rw [if_pos h10] at hst
          have HST := Lib.hid hst
          have h10I : (((s[i]'hlt).toNat : Nat) : Int) = 10 := by omega
          clear hst hT h10
          go_wp2
          go_ret
          exact ⟨retI (by have := HST.out; omega), rfl⟩
        · rw [if_neg h10] at hst
          have HST := Lib.hid hst
          have h10I : ¬ (((s[i]'hlt).toNat : Nat) : Int) = 10 := by omega
          clear hst hT h10
          go_wp2
          go_roundw
          case rel => exact ⟨i + 1, by omega, by go_num, by have := HST.out; unfold Hid; omega, trivial⟩
          case measure => simp [intOf]; omega
      · obtain rfl : i = s.size := by omega
        have hst := hT.out
        rw [drop_all] at hst
        simp only [upTo] at hst
        have HST := Lib.hid hst
        have hnl : ¬ (s.size : Int) < s.size := by omega
        clear hst hT
        go_wp2
        go_ret
        exact ⟨retI (by have := HST.out; omega), rfl⟩

set_option maxHeartbeats 1000000 in
set_option maxRecDepth 100000 in
theorem piece_any (f : Bool) (s : ByteArray) (k : Nat) (hk : k ≤ s.size) (w : World) (hs : s.size ≤ 140737488355328) :
    Calls Tryz.prog 108 #[.string s, .int .i64 k] w fun e w' => e = .returned (.int .i64 (k + (pieceF f (s.data.toList.drop k)).1 : Nat)) ∧ w' = w := by
  have A1 := byteAt_any s k w hs
  have A2 := byteAt_any s (k + 1) w hs
  have A3 := byteAt_any s (k + 2) w hs
  have C1 := comment_any s k hk w hs
  rw [← List.drop_drop] at A2 A3
  rw [show ((k + 1 : Nat) : Int) = k + 1 by omega] at A2
  rw [show ((k + 2 : Nat) : Int) = k + 2 by omega] at A3
  generalize s.data.toList.drop k = l at *
  have hkI : (k : Int) ≤ 140737488355328 := by omega
  have HC1 := Lib.hid C1
  clear hs C1
  cases l with
  | nil =>
    simp only [headN] at A1
    have HA1 := Lib.hid A1
    clear A1 A2 A3
    go_enter Tryz.func108, Tryz.ntmps108
    go_wp2_with fail
    refine HA1.out.mono ?_
    rintro e w1 ⟨rfl, rfl⟩
    go_wp2_with fail
    refine HC1.out.mono ?_
    rintro e w1 ⟨rfl, rfl⟩
    go_wp2
    go_ret
    exact ⟨rfl, rfl⟩
  | cons c l =>
    by_cases h32 : c.toNat = 32
    · have hP : (pieceF f (c :: l)).1 = 1 := by rw [pieceF]; simp [h32]
      have HP := Lib.hid hP
      simp only [headN, h32] at A1
      have HA1 := Lib.hid A1
      clear A1 A2 A3 hP
      go_enter Tryz.func108, Tryz.ntmps108
      go_wp2_with fail
      refine HA1.out.mono ?_
      rintro e w1 ⟨rfl, rfl⟩
      go_wp2
      go_ret
      exact ⟨retI (by rw [HP.out]; omega), rfl⟩
    by_cases h9 : c.toNat = 9
    · have hP : (pieceF f (c :: l)).1 = 1 := by rw [pieceF]; simp [h9]
      have HP := Lib.hid hP
      simp only [headN, h9] at A1
      have HA1 := Lib.hid A1
      clear A1 A2 A3 hP
      go_enter Tryz.func108, Tryz.ntmps108
      go_wp2_with fail
      refine HA1.out.mono ?_
      rintro e w1 ⟨rfl, rfl⟩
      go_wp2
      go_ret
      exact ⟨retI (by rw [HP.out]; omega), rfl⟩
    by_cases h10 : c.toNat = 10
    · have hP : (pieceF f (c :: l)).1 = 1 := by rw [pieceF]; simp [h10]
      have HP := Lib.hid hP
      simp only [headN, h10] at A1
      have HA1 := Lib.hid A1
      clear A1 A2 A3 hP
      go_enter Tryz.func108, Tryz.ntmps108
      go_wp2_with fail
      refine HA1.out.mono ?_
      rintro e w1 ⟨rfl, rfl⟩
      go_wp2
      go_ret
      exact ⟨retI (by rw [HP.out]; omega), rfl⟩
    by_cases h11 : c.toNat = 11
    · have hP : (pieceF f (c :: l)).1 = 1 := by rw [pieceF]; simp [h11]
      have HP := Lib.hid hP
      simp only [headN, h11] at A1
      have HA1 := Lib.hid A1
      clear A1 A2 A3 hP
      go_enter Tryz.func108, Tryz.ntmps108
      go_wp2_with fail
      refine HA1.out.mono ?_
      rintro e w1 ⟨rfl, rfl⟩
      go_wp2
      go_ret
      exact ⟨retI (by rw [HP.out]; omega), rfl⟩
    by_cases h12 : c.toNat = 12
    · have hP : (pieceF f (c :: l)).1 = 1 := by rw [pieceF]; simp [h12]
      have HP := Lib.hid hP
      simp only [headN, h12] at A1
      have HA1 := Lib.hid A1
      clear A1 A2 A3 hP
      go_enter Tryz.func108, Tryz.ntmps108
      go_wp2_with fail
      refine HA1.out.mono ?_
      rintro e w1 ⟨rfl, rfl⟩
      go_wp2
      go_ret
      exact ⟨retI (by rw [HP.out]; omega), rfl⟩
    by_cases h13 : c.toNat = 13
    · have hP : (pieceF f (c :: l)).1 = 1 := by rw [pieceF]; simp [h13]
      have HP := Lib.hid hP
      simp only [headN, h13] at A1
      have HA1 := Lib.hid A1
      clear A1 A2 A3 hP
      go_enter Tryz.func108, Tryz.ntmps108
      go_wp2_with fail
      refine HA1.out.mono ?_
      rintro e w1 ⟨rfl, rfl⟩
      go_wp2
      go_ret
      exact ⟨retI (by rw [HP.out]; omega), rfl⟩
    by_cases h92 : c.toNat = 92
    · have hc : c = 92 := UInt8.toNat_inj.1 h92
      subst hc
      clear h32 h9 h10 h11 h12 h13 h92
      have hP : (pieceF f (92 :: l)).1 = joinN (92 :: l) := by
        rw [pieceF]; simp
      simp only [List.drop_succ_cons, List.drop_zero] at A2 A3
      rw [show headN (92 :: l) = 92 from rfl] at A1
      have hJ : (headN l = 10 ∧ joinN (92 :: l) = 2) ∨ (¬ headN l = 10 ∧ headN l = 13 ∧ headN (l.drop 1) = 10 ∧ joinN (92 :: l) = 3) ∨ (¬ headN l = 10 ∧ headN l = 13 ∧ ¬ headN (l.drop 1) = 10 ∧ joinN (92 :: l) = 0) ∨ (¬ headN l = 10 ∧ ¬ headN l = 13 ∧ joinN (92 :: l) = 0) := by
        cases l with
        | nil => exact .inr (.inr (.inr ⟨by decide, by decide, rfl⟩))
        | cons d l =>
          by_cases d10 : d = 10
          · subst d10; exact .inl ⟨rfl, rfl⟩
          · have e10 : ¬ headN (d :: l) = 10 := fun g => d10 (UInt8.toNat_inj.1 g)
            by_cases d13 : d = 13
            · subst d13
              cases l with
              | nil => exact .inr (.inr (.inl ⟨e10, rfl, by decide, rfl⟩))
              | cons x l =>
                by_cases x10 : x = 10
                · subst x10; exact .inr (.inl ⟨e10, rfl, rfl, rfl⟩)
                · refine .inr (.inr (.inl ⟨e10, rfl, fun g => x10 (UInt8.toNat_inj.1 g), ?_⟩))
                  unfold joinN
                  split <;> simp_all
            · refine .inr (.inr (.inr ⟨e10, fun g => d13 (UInt8.toNat_inj.1 g), ?_⟩))
              unfold joinN
              split <;> simp_all
      rw [hP]
      generalize joinN (92 :: l) = J at *
      generalize headN l = a at *
      generalize headN (l.drop 1) = b at *
      have HA1 := Lib.hid A1
      have HA2 := Lib.hid A2
      have HA3 := Lib.hid A3
      clear A1 A2 A3 hP
      rcases hJ with ⟨rfl, rfl⟩ | ⟨q1, rfl, rfl, rfl⟩ | ⟨q1, rfl, q2, rfl⟩ | ⟨q1, q2, rfl⟩
      · go_enter Tryz.func108, Tryz.ntmps108
        go_wp2_with fail
        refine HA1.out.mono ?_
        rintro e w1 ⟨rfl, rfl⟩
        go_wp2_with fail
        refine HA2.out.mono ?_
        rintro e w1 ⟨rfl, rfl⟩
        go_wp2
        go_ret
        exact ⟨retI (by omega), rfl⟩
      · go_enter Tryz.func108, Tryz.ntmps108
        go_wp2_with fail
        refine HA1.out.mono ?_
        rintro e w1 ⟨rfl, rfl⟩
        go_wp2_with fail
        refine HA2.out.mono ?_
        rintro e w1 ⟨rfl, rfl⟩
        go_wp2_with fail
        refine HA2.out.mono ?_
        rintro e w1 ⟨rfl, rfl⟩
        go_wp2_with fail
        refine HA3.out.mono ?_
        rintro e w1 ⟨rfl, rfl⟩
        go_wp2
        go_ret
        exact ⟨retI (by omega), rfl⟩
      · have q3 : ¬ (b : Int) = 10 := by omega
        go_enter Tryz.func108, Tryz.ntmps108
        go_wp2_with fail
        refine HA1.out.mono ?_
        rintro e w1 ⟨rfl, rfl⟩
        go_wp2_with fail
        refine HA2.out.mono ?_
        rintro e w1 ⟨rfl, rfl⟩
        go_wp2_with fail
        refine HA2.out.mono ?_
        rintro e w1 ⟨rfl, rfl⟩
        go_wp2_with fail
        refine HA3.out.mono ?_
        rintro e w1 ⟨rfl, rfl⟩
        go_wp2
        go_ret
        exact ⟨retI (by omega), rfl⟩
      · have q3 : ¬ (a : Int) = 10 := by omega
        have q4 : ¬ (a : Int) = 13 := by omega
        go_enter Tryz.func108, Tryz.ntmps108
        go_wp2_with fail
        refine HA1.out.mono ?_
        rintro e w1 ⟨rfl, rfl⟩
        go_wp2_with fail
        refine HA2.out.mono ?_
        rintro e w1 ⟨rfl, rfl⟩
        go_wp2_with fail
        refine HA2.out.mono ?_
        rintro e w1 ⟨rfl, rfl⟩
        go_wp2
        go_ret
        exact ⟨retI (by omega), rfl⟩
    · have hP : (pieceF f (c :: l)).1 = comN (c :: l) := by
        rw [pieceF]
        by_cases h47 : c.toNat = 47
        · simp [h47]
        · have h0 : comN (c :: l) = 0 := by
            cases l with
            | nil => rfl
            | cons d l => simp [comN, h47]
          rw [h0]
          simp [h32, h9, h10, h11, h12, h13, h92, h47]
      have HP := Lib.hid hP
      simp only [headN] at A1
      have i1 : ¬ ((c.toNat : Nat) : Int) = 32 := by omega
      have i2 : ¬ ((c.toNat : Nat) : Int) = 9 := by omega
      have i3 : ¬ ((c.toNat : Nat) : Int) = 10 := by omega
      have i4 : ¬ ((c.toNat : Nat) : Int) = 11 := by omega
      have i5 : ¬ ((c.toNat : Nat) : Int) = 12 := by omega
      have i6 : ¬ ((c.toNat : Nat) : Int) = 13 := by omega
      have i7 : ¬ ((c.toNat : Nat) : Int) = 92 := by omega
      have HA1 := Lib.hid A1
      clear A1 A2 A3 hP h32 h9 h10 h11 h12 h13 h92
      go_enter Tryz.func108, Tryz.ntmps108
      go_wp2_with fail
      refine HA1.out.mono ?_
      rintro e w1 ⟨rfl, rfl⟩
      go_wp2_with fail
      refine HC1.out.mono ?_
      rintro e w1 ⟨rfl, rfl⟩
      go_wp2
      go_ret
      exact ⟨retI (by rw [HP.out]; omega), rfl⟩

end Go.Proofs.YtjdpkhjoecfhlaaGreatDoor
