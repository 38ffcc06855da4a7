/- Lex, in the document: numbers, words, quotes. -/
import Derived.Test.YtjdpkhjoecfhlaaGreatDoorLexT
namespace Go.Proofs.YtjdpkhjoecfhlaaGreatDoor
open Go.RowKit Go.Maps Go.Shelf

set_option maxHeartbeats 4000000 in
set_option maxRecDepth 100000 in
theorem refNumber_any (s : ByteArray) (k : Nat) (hk : k < s.size) (w : World) (hs : s.size ≤ 140737488355328) :
    Calls Tryz.prog 156 #[.string s, .int .i64 k] w fun e w' => e = .returned (.int .i64 (k + 1 + numT (s[k]'hk) (s.data.toList.drop (k + 1)) : Nat)) ∧ w' = w := by
  have hkI : (k : Int) ≤ 140737488355328 := by omega
  have hsI : (s.size : Int) ≤ 140737488355328 := by omega
  clear hs
  go_enter Tryz.func156, Tryz.ntmps156
  go_wp2_with fail
  go_loopw [5] (fun vn wr => ∃ (i : Nat) (_ : i - 1 < s.size), k + 1 ≤ i ∧ i ≤ s.size ∧ vn = .int .i64 i ∧ Hid (i + numT (s[i - 1]) (s.data.toList.drop i) = k + 1 + numT s[k] (s.data.toList.drop (k + 1))) ∧ wr = w) (fun vn _ => s.size - (intOf vn).toNat)
  case atStart => exact ⟨k + 1, by omega, Nat.le_refl _, by omega, by go_num, rfl, rfl⟩
  case round =>
    obtain ⟨i, hi0, hi1, hi2, rfl, hT, rfl⟩ := hrel
    by_cases hlt : i < s.size
    · have hst := hT.out
      rw [drop_at s i hlt, numT] at hst
      have M1 := fun W => letter_any (s[i]'hlt) W
      have M2 := fun W => digit_any (s[i]'hlt) W
      have hltI : (i : Int) < s.size := by omega
      have hi1I : (1 : Int) ≤ i := by omega
      unfold inNum at hst
      generalize hci : s[i]'hlt = c at *
      by_cases cs43 : c = 43
      · subst cs43
        rw [if_pos (show (UInt8.toNat 43 = 43 ∨ UInt8.toNat 43 = 45) by decide)] at hst
        have HM1 := Lib.hid M1
        have HM2 := Lib.hid M2
        have hpi : IntKind.i64.wrap ((i : Int) - 1) = ((i - 1 : Nat) : Int) := by
          have h1 : ((i - 1 : Nat) : Int) = (i : Int) - 1 := by omega
          rw [h1]
          exact IntWalk.i64_in _ (by omega)
        generalize hpe : s[i - 1]'hi0 = p at *
        by_cases p101 : p = 101
        · subst p101
          rw [if_pos (by decide)] at hst
          have HST := Lib.hid hst
          clear M1 M2 hst hT
          go_wp2_with fail
          refine (HM1.out _).mono ?_
          rintro e w2 ⟨rfl, rfl⟩
          go_wp2_with fail
          refine (HM2.out _).mono ?_
          rintro e w3 ⟨rfl, rfl⟩
          go_wp2
          go_roundw
          case rel => exact ⟨i + 1, by omega, by omega, by omega, by go_num, by have := HST.out; unfold Hid; simp only [Nat.add_sub_cancel, hci]; omega, trivial⟩
          case measure => simp [intOf]; omega
        · by_cases p69 : p = 69
          · subst p69
            rw [if_pos (by decide)] at hst
            have HST := Lib.hid hst
            clear M1 M2 hst hT p101
            go_wp2_with fail
            refine (HM1.out _).mono ?_
            rintro e w2 ⟨rfl, rfl⟩
            go_wp2_with fail
            refine (HM2.out _).mono ?_
            rintro e w3 ⟨rfl, rfl⟩
            go_wp2
            go_roundw
            case rel => exact ⟨i + 1, by omega, by omega, by omega, by go_num, by have := HST.out; unfold Hid; simp only [Nat.add_sub_cancel, hci]; omega, trivial⟩
            case measure => simp [intOf]; omega
          · have hp1 : ¬ p.toNat = 101 := fun g => p101 (UInt8.toNat_inj.1 g)
            have hp2 : ¬ p.toNat = 69 := fun g => p69 (UInt8.toNat_inj.1 g)
            rw [if_neg (by simp [hp1, hp2])] at hst
            have HST := Lib.hid hst
            have i1 : ¬ ((p.toNat : Nat) : Int) = 101 := by omega
            have i2 : ¬ ((p.toNat : Nat) : Int) = 69 := by omega
            have i3 : (((p.toNat : Nat) : Int) == 101) = false := by simpa using i1
            have i4 : (((p.toNat : Nat) : Int) == 69) = false := by simpa using i2
            clear M1 M2 hst hT p101 p69 hp1 hp2
            go_wp2_with fail
            refine (HM1.out _).mono ?_
            rintro e w2 ⟨rfl, rfl⟩
            go_wp2_with fail
            refine (HM2.out _).mono ?_
            rintro e w3 ⟨rfl, rfl⟩
            go_wp2
            go_ret
            exact ⟨retI (by have := HST.out; omega), rfl⟩
      by_cases cs45 : c = 45
      · subst cs45
        rw [if_pos (show (UInt8.toNat 45 = 43 ∨ UInt8.toNat 45 = 45) by decide)] at hst
        have HM1 := Lib.hid M1
        have HM2 := Lib.hid M2
        have hpi : IntKind.i64.wrap ((i : Int) - 1) = ((i - 1 : Nat) : Int) := by
          have h1 : ((i - 1 : Nat) : Int) = (i : Int) - 1 := by omega
          rw [h1]
          exact IntWalk.i64_in _ (by omega)
        generalize hpe : s[i - 1]'hi0 = p at *
        by_cases p101 : p = 101
        · subst p101
          rw [if_pos (by decide)] at hst
          have HST := Lib.hid hst
          clear M1 M2 hst hT
          go_wp2_with fail
          refine (HM1.out _).mono ?_
          rintro e w2 ⟨rfl, rfl⟩
          go_wp2_with fail
          refine (HM2.out _).mono ?_
          rintro e w3 ⟨rfl, rfl⟩
          go_wp2
          go_roundw
          case rel => exact ⟨i + 1, by omega, by omega, by omega, by go_num, by have := HST.out; unfold Hid; simp only [Nat.add_sub_cancel, hci]; omega, trivial⟩
          case measure => simp [intOf]; omega
        · by_cases p69 : p = 69
          · subst p69
            rw [if_pos (by decide)] at hst
            have HST := Lib.hid hst
            clear M1 M2 hst hT p101
            go_wp2_with fail
            refine (HM1.out _).mono ?_
            rintro e w2 ⟨rfl, rfl⟩
            go_wp2_with fail
            refine (HM2.out _).mono ?_
            rintro e w3 ⟨rfl, rfl⟩
            go_wp2
            go_roundw
            case rel => exact ⟨i + 1, by omega, by omega, by omega, by go_num, by have := HST.out; unfold Hid; simp only [Nat.add_sub_cancel, hci]; omega, trivial⟩
            case measure => simp [intOf]; omega
          · have hp1 : ¬ p.toNat = 101 := fun g => p101 (UInt8.toNat_inj.1 g)
            have hp2 : ¬ p.toNat = 69 := fun g => p69 (UInt8.toNat_inj.1 g)
            rw [if_neg (by simp [hp1, hp2])] at hst
            have HST := Lib.hid hst
            have i1 : ¬ ((p.toNat : Nat) : Int) = 101 := by omega
            have i2 : ¬ ((p.toNat : Nat) : Int) = 69 := by omega
            have i3 : (((p.toNat : Nat) : Int) == 101) = false := by simpa using i1
            have i4 : (((p.toNat : Nat) : Int) == 69) = false := by simpa using i2
            clear M1 M2 hst hT p101 p69 hp1 hp2
            go_wp2_with fail
            refine (HM1.out _).mono ?_
            rintro e w2 ⟨rfl, rfl⟩
            go_wp2_with fail
            refine (HM2.out _).mono ?_
            rintro e w3 ⟨rfl, rfl⟩
            go_wp2
            go_ret
            exact ⟨retI (by have := HST.out; omega), rfl⟩
      have n43 : ¬ c.toNat = 43 := fun g => cs43 (UInt8.toNat_inj.1 g)
      have n45 : ¬ c.toNat = 45 := fun g => cs45 (UInt8.toNat_inj.1 g)
      rw [if_neg (show ¬ (c.toNat = 43 ∨ c.toNat = 45) by omega)] at hst
      have c43 : ¬ ((c.toNat : Nat) : Int) = 43 := by omega
      have c45 : ¬ ((c.toNat : Nat) : Int) = 45 := by omega
      clear cs43 cs45 n43 n45
      cases q1 : isLet c
      · cases q2 : isDig c
        · by_cases c46 : c = 46
          · subst c46
            rw [if_pos (by decide)] at hst
            have HM1 := Lib.hid M1
            have HM2 := Lib.hid M2
            have HST := Lib.hid hst
            clear M1 M2 hst q1 q2 hT c43 c45
            go_wp2_with fail
            refine (HM1.out _).mono ?_
            rintro e w2 ⟨rfl, rfl⟩
            go_wp2_with fail
            refine (HM2.out _).mono ?_
            rintro e w3 ⟨rfl, rfl⟩
            go_wp2
            go_roundw
            case rel => exact ⟨i + 1, by omega, by omega, by omega, by go_num, by have := HST.out; unfold Hid; simp only [Nat.add_sub_cancel, hci]; omega, trivial⟩
            case measure => simp [intOf]; omega
          · have n46 : ¬ c.toNat = 46 := fun g => c46 (UInt8.toNat_inj.1 g)
            have c46I : ¬ ((c.toNat : Nat) : Int) = 46 := by omega
            rw [if_neg (by simp [n46, q1, q2])] at hst
            rw [q1] at M1
            rw [q2] at M2
            have HM1 := Lib.hid M1
            have HM2 := Lib.hid M2
            have HST := Lib.hid hst
            clear M1 M2 hst q1 q2 hT c46 n46
            go_wp2_with fail
            refine (HM1.out _).mono ?_
            rintro e w2 ⟨rfl, rfl⟩
            go_wp2_with fail
            refine (HM2.out _).mono ?_
            rintro e w3 ⟨rfl, rfl⟩
            go_wp2
            go_ret
            exact ⟨retI (by have := HST.out; omega), rfl⟩
        · rw [if_pos (by simp [q2])] at hst
          rw [q1] at M1
          rw [q2] at M2
          have HM1 := Lib.hid M1
          have HM2 := Lib.hid M2
          have HST := Lib.hid hst
          clear M1 M2 hst q1 q2 hT
          go_wp2_with fail
          refine (HM1.out _).mono ?_
          rintro e w2 ⟨rfl, rfl⟩
          go_wp2_with fail
          refine (HM2.out _).mono ?_
          rintro e w3 ⟨rfl, rfl⟩
          go_wp2
          go_roundw
          case rel => exact ⟨i + 1, by omega, by omega, by omega, by go_num, by have := HST.out; unfold Hid; simp only [Nat.add_sub_cancel, hci]; omega, trivial⟩
          case measure => simp [intOf]; omega
      · rw [if_pos (by simp [q1])] at hst
        rw [q1] at M1
        have HM1 := Lib.hid M1
        have HST := Lib.hid hst
        clear M1 M2 hst q1 hT
        go_wp2_with fail
        refine (HM1.out _).mono ?_
        rintro e w2 ⟨rfl, rfl⟩
        go_wp2
        go_roundw
        case rel => exact ⟨i + 1, by omega, by omega, by omega, by go_num, by have := HST.out; unfold Hid; simp only [Nat.add_sub_cancel, hci]; omega, trivial⟩
        case measure => simp [intOf]; omega
    · obtain rfl : i = s.size := by omega
      have hst := hT.out
      rw [drop_all] at hst
      simp only [numT] at hst
      have HST := Lib.hid hst
      have hnl : ¬ (s.size : Int) < s.size := by omega
      clear hst hT
      go_wp2
      go_ret
      exact ⟨retI (by have := HST.out; omega), rfl⟩

end Go.Proofs.YtjdpkhjoecfhlaaGreatDoor
