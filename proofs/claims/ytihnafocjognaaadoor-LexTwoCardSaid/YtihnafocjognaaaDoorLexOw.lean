/- LexTwo: the law's own lineComment and open. -/
import Derived.Test.YtihnafocjognaaaDoorLexOe
import Derived.Test.YtihnafocjognaaaDoorLexStrip
import Derived.Test.YtihnafocjognaaaDoorLexJ
namespace Go.Proofs.YtihnafocjognaaaDoor
open Go.RowKit Go.Maps Go.Shelf

theorem drop_end (s : ByteArray) (i : Nat) (h : s.size ≤ i) : s.data.toList.drop i = [] := List.drop_eq_nil_of_le (by simpa using h)
theorem lc_nil : lcF [] = false := by rw [lcF]
theorem lc_other (c d : UInt8) (l : List UInt8) (h1 : ¬ d = 42) (h2 : ¬ d = 47) : lcF (c :: d :: l) = lcF (d :: l) := by
  conv => lhs; rw [lcF]
  rw [if_neg (fun g => h1 (by simpa using g.2)), if_neg (fun g => h2 (by simpa using g.2))]

set_option maxHeartbeats 4000000 in
set_option maxRecDepth 100000 in
theorem lineComment_any (s : ByteArray) (w : World) (hs : s.size ≤ 140737488355328) :
    Calls Tryd.prog 26 #[.string s] w fun e w' => e = .returned (.bool (lcF s.data.toList)) ∧ w' = w := by
  have hsI : (s.size : Int) ≤ 140737488355328 := by omega
  obtain ⟨V, hV⟩ : ∃ V, V = lcF s.data.toList := ⟨_, rfl⟩
  rw [← hV]
  have HS := Lib.hid hs
  have HV := Lib.hid hV
  clear hs hV
  go_enter Tryd.func26, Tryd.ntmps26
  go_wp2_with fail
  go_loopw [3] (fun vi wr => ∃ i : Nat, i ≤ s.size + 2 ∧ vi = .int .i64 i ∧ Hid (lcF (s.data.toList.drop i) = V) ∧ wr = w) (fun vi _ => s.size + 3 - (intOf vi).toNat)
  case atStart => exact ⟨0, Nat.zero_le _, rfl, by unfold Hid; rw [HV.out]; rfl, rfl⟩
  case round =>
    obtain ⟨i, hi, rfl, hT, rfl⟩ := hrel
    by_cases hlt : i < s.size
    · have hltI : (i : Int) < s.size := by omega
      have hst := hT.out
      rw [drop_at s i hlt] at hst
      by_cases hl2 : i + 1 < s.size
      · have hl2I : (i : Int) + 1 < s.size := by omega
        have h1I : ((i + 1 : Nat) : Int) = i + 1 := by omega
        rw [drop_at s (i + 1) hl2] at hst
        by_cases c47 : (s[i]'hlt).toNat = 47
        · have c47I : (((s[i]'hlt).toNat : Nat) : Int) = 47 := by omega
          have c47' : s[i]'hlt = 47 := UInt8.toNat_inj.1 c47
          by_cases d42 : (s[i + 1]'hl2).toNat = 42
          · have d42I : (((s[i + 1]'hl2).toNat : Nat) : Int) = 42 := by omega
            have d42' : s[i + 1]'hl2 = 42 := UInt8.toNat_inj.1 d42
            rw [c47', d42', lc_star, List.drop_drop] at hst
            have HST := Lib.hid hst
            clear hst hT c47 d42 c47' d42'
            obtain ⟨wz, hwz⟩ : ∃ wz : World, wz = wr := ⟨_, rfl⟩
            subst hwz
            go_wp2_with fail
            go_loopw [3] (fun vj wr => ∃ j : Nat, i + 2 ≤ j ∧ j ≤ s.size ∧ vj = .int .i64 j ∧ Hid (j + starT (s.data.toList.drop j) = i + 1 + 1 + starT (s.data.toList.drop (i + 1 + 1))) ∧ wr = wz) (fun vj _ => s.size - (intOf vj).toNat)
            case atStart => exact ⟨i + 2, Nat.le_refl _, by omega, by go_num, rfl, by trivial⟩
            case round =>
              obtain ⟨j, hj1, hj2, rfl, hJ, rfl⟩ := hrel
              have HJ1 := Lib.hid hj1
              by_cases hk2 : j + 1 < s.size
              · have hkI : (j : Int) + 1 < s.size := by omega
                have hk0 : j < s.size := by omega
                have hk0I : (j : Int) < s.size := by omega
                have hjst := hJ.out
                rw [drop_at s j hk0, drop_at s (j + 1) hk2, starT] at hjst
                by_cases e42 : (s[j]'hk0).toNat = 42
                · have e42I : (((s[j]'hk0).toNat : Nat) : Int) = 42 := by omega
                  by_cases f47 : (s[j + 1]'hk2).toNat = 47
                  · have f47I : (((s[j + 1]'hk2).toNat : Nat) : Int) = 47 := by omega
                    rw [if_pos ⟨e42, f47⟩] at hjst
                    have HJST := Lib.hid hjst
                    clear hjst hJ e42 f47 hj1
                    have e42B : ((((s[j]'hk0).toNat : Nat) : Int) == 42) = true := by rw [e42I]; rfl
                    have f47B : ((((s[j + 1]'hk2).toNat : Nat) : Int) == 47) = true := by rw [f47I]; rfl
                    go_wp2
                    go_roundw
                    case rel => exact ⟨j + 2, by omega, by go_num, by unfold Hid; rw [← HST.out, ← HJST.out], trivial⟩
                    case measure => simp [intOf]; have := HJ1.out; omega
                  · have f47I : ¬ (((s[j + 1]'hk2).toNat : Nat) : Int) = 47 := by omega
                    have f47B : ((((s[j + 1]'hk2).toNat : Nat) : Int) == 47) = false := by simpa using f47I
                    rw [if_neg (fun g => f47 g.2), ← drop_at s (j + 1) hk2] at hjst
                    have HJST := Lib.hid hjst
                    clear hjst hJ e42 f47 hj1
                    go_wp2
                    go_roundw
                    case rel => exact ⟨j + 1, by have := HJ1.out; omega, by omega, by go_num, by unfold Hid; rw [← HJST.out]; omega, trivial⟩
                    case measure => simp [intOf]; omega
                · have e42I : ¬ (((s[j]'hk0).toNat : Nat) : Int) = 42 := by omega
                  have e42B : ((((s[j]'hk0).toNat : Nat) : Int) == 42) = false := by simpa using e42I
                  rw [if_neg (fun g => e42 g.1), ← drop_at s (j + 1) hk2] at hjst
                  have HJST := Lib.hid hjst
                  clear hjst hJ e42 hj1
                  go_wp2
                  go_roundw
                  case rel => exact ⟨j + 1, by have := HJ1.out; omega, by omega, by go_num, by unfold Hid; rw [← HJST.out]; omega, trivial⟩
                  case measure => simp [intOf]; omega
              · have hkI : ¬ (j : Int) + 1 < s.size := by omega
                have hjst := hJ.out
                have hT2 : j + starT (s.data.toList.drop j) = s.size := by
                  by_cases g : j = s.size
                  · subst g; rw [drop_end s _ (Nat.le_refl _)]; rfl
                  · rw [drop_at s j (by omega), drop_end s (j + 1) (by omega), starT]; omega
                rw [hT2] at hjst
                have HJST := Lib.hid hjst
                clear hjst hJ hT2 hj1
                go_wp2
                go_roundw
                case rel => exact ⟨j + 2, by omega, by go_num, by unfold Hid; rw [← HST.out, ← HJST.out, drop_end s _ (Nat.le_refl _), drop_end s _ (by omega)], trivial⟩
                case measure => simp [intOf]; have := HJ1.out; omega
          · have d42I : ¬ (((s[i + 1]'hl2).toNat : Nat) : Int) = 42 := by omega
            by_cases d47 : (s[i + 1]'hl2).toNat = 47
            · have d47I : (((s[i + 1]'hl2).toNat : Nat) : Int) = 47 := by omega
              have d47' : s[i + 1]'hl2 = 47 := UInt8.toNat_inj.1 d47
              rw [c47', d47', lc_line] at hst
              have hup : i + upTo (s.data.toList.drop i) = i + 2 + upTo (s.data.toList.drop (i + 1 + 1)) := by
                rw [drop_at s i hlt, drop_at s (i + 1) hl2, c47', d47', upTo, if_neg (by decide), upTo, if_neg (by decide)]
                omega
              have HST := Lib.hid hst
              have HUP := Lib.hid hup
              clear hst hT c47 d42 d47 c47' d47' hup
              obtain ⟨wz, hwz⟩ : ∃ wz : World, wz = wr := ⟨_, rfl⟩
              subst hwz
              go_wp2_with fail
              go_loopw [3] (fun vj wr => ∃ j : Nat, i ≤ j ∧ j ≤ s.size ∧ vj = .int .i64 j ∧ Hid (j + upTo (s.data.toList.drop j) = i + upTo (s.data.toList.drop i)) ∧ wr = wz) (fun vj _ => s.size - (intOf vj).toNat)
              case atStart => exact ⟨i, Nat.le_refl _, by omega, by go_num, rfl, by trivial⟩
              case round =>
                obtain ⟨j, hj1, hj2, rfl, hJ, rfl⟩ := hrel
                have HJ1 := Lib.hid hj1
                by_cases hk0 : j < s.size
                · have hk0I : (j : Int) < s.size := by omega
                  have hk0N : ¬ (s.size : Int) ≤ j := by omega
                  have hjst := hJ.out
                  rw [drop_at s j hk0, upTo] at hjst
                  by_cases e10 : (s[j]'hk0).toNat = 10
                  · have e10I : (((s[j]'hk0).toNat : Nat) : Int) = 10 := by omega
                    rw [if_pos e10, HUP.out] at hjst
                    have HJST := Lib.hid hjst
                    clear hjst hJ e10 hj1
                    go_wp2
                    go_roundw
                    case rel =>
                      refine ⟨j + 1, by omega, by go_num, ?_, trivial⟩
                      have h := HST.out
                      have h2 := HJST.out
                      rw [if_neg (by rw [List.length_drop]; simp; omega), List.drop_drop] at h
                      unfold Hid
                      rw [← h]
                      congr 2
                      omega
                    case measure => simp [intOf]; have := HJ1.out; omega
                  · have e10I : ¬ (((s[j]'hk0).toNat : Nat) : Int) = 10 := by omega
                    rw [if_neg e10] at hjst
                    have HJST := Lib.hid hjst
                    clear hjst hJ e10 hj1
                    go_wp2
                    go_roundw
                    case rel => exact ⟨j + 1, by have := HJ1.out; omega, by omega, by go_num, by unfold Hid; rw [← HJST.out]; omega, trivial⟩
                    case measure => simp [intOf]; omega
                · obtain rfl : j = s.size := by omega
                  have hk0I : ¬ (s.size : Int) < s.size := by omega
                  have hjst := hJ.out
                  rw [drop_end s _ (Nat.le_refl _), HUP.out] at hjst
                  have hv : V = true := by
                    have h := HST.out
                    rw [if_pos (by rw [List.length_drop]; simp only [upTo] at hjst; simp; omega)] at h
                    exact h.symm
                  have HVV := Lib.hid hv
                  clear hjst hJ hv hj1
                  go_wp2
                  go_ret
                  exact ⟨by rw [HVV.out]; rfl, rfl⟩
            · have d47I : ¬ (((s[i + 1]'hl2).toNat : Nat) : Int) = 47 := by omega
              have hst2 : lcF (s.data.toList.drop (i + 1)) = V := by
                rw [drop_at s (i + 1) hl2, ← hst, lc_other (s[i]'hlt) _ _ (fun g => d42 (by rw [g]; rfl)) (fun g => d47 (by rw [g]; rfl))]
              have HST := Lib.hid hst2
              clear hst hT c47 d42 d47 c47' hst2
              go_wp2
              go_roundw
              case rel => exact ⟨i + 1, by omega, by go_num, HST.out, trivial⟩
              case measure => simp [intOf]; omega
        · have c47I : ¬ (((s[i]'hlt).toNat : Nat) : Int) = 47 := by omega
          have hst2 : lcF (s.data.toList.drop (i + 1)) = V := by
            rw [drop_at s (i + 1) hl2, ← hst, lc_plain (s[i]'hlt) _ (fun g => c47 (by rw [g]; rfl))]
          have HST := Lib.hid hst2
          clear hst hT c47 hst2
          go_wp2
          go_roundw
          case rel => exact ⟨i + 1, by omega, by go_num, HST.out, trivial⟩
          case measure => simp [intOf]; omega
      · have hl2I : ¬ (i : Int) + 1 < s.size := by omega
        have hst2 : lcF (s.data.toList.drop (i + 1)) = V := by
          rw [drop_end s (i + 1) (by omega)] at hst ⊢
          rw [← hst, lcF, lcF, if_neg (by simp), if_neg (by simp), lcF]
        have HST := Lib.hid hst2
        clear hst hT hst2
        go_wp2
        go_roundw
        case rel => exact ⟨i + 1, by omega, by go_num, HST.out, trivial⟩
        case measure => simp [intOf]; omega
    · have hltI : ¬ (i : Int) < s.size := by omega
      have hst := hT.out
      rw [drop_end s i (by omega), lc_nil] at hst
      have HST := Lib.hid hst
      clear hst hT
      go_wp2
      go_ret
      exact ⟨by rw [← HST.out]; rfl, rfl⟩

end Go.Proofs.YtihnafocjognaaaDoor
