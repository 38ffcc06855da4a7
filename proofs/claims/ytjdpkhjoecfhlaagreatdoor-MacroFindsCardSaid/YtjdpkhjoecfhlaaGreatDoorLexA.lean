/- Lex: letters, digits, words, numbers, quotes: the walks. -/
import Derived.Test.YtjdpkhjoecfhlaaGreatDoorLexF
import Derived.Test.YtjdpkhjoecfhlaaGreatDoorProg
import Derived.BigQuiet
import Derived.Deep.QuietTactic
import Derived.Lib.Hide
import Derived.RegionTactic
import Derived.WalkKit
import Derived.WalkLawsBesides
import Derived.WalkSpells
import Derived.Below
namespace Go.Proofs.YtjdpkhjoecfhlaaGreatDoor
open Go.RowKit Go.Maps

theorem retB {x y : Bool} (h : x = y) : Ending.returned (.bool x) = .returned (.bool y) := by rw [h]
theorem retI {x y : Int} (h : x = y) : Ending.returned (.int .i64 x) = .returned (.int .i64 y) := by rw [h]

set_option maxHeartbeats 4000000 in
set_option maxRecDepth 100000 in
theorem isLetter_any (c : UInt8) (w : World) : Calls Tryz.prog 201 #[.int .u8 c.toNat] w fun e w' => e = .returned (.bool (isLet c)) ∧ w' = w := by
  by_cases a1 : (97 : Int) ≤ c.toNat <;> by_cases a2 : (c.toNat : Int) ≤ 122 <;> by_cases b1 : (65 : Int) ≤ c.toNat <;> by_cases b2 : (c.toNat : Int) ≤ 90 <;> by_cases e1 : (c.toNat : Int) = 95
  all_goals try omega
  all_goals
    first
    | (have e : isLet c = true := by (unfold isLet; simp; omega)
       have HE := Lib.hid e
       clear e
       go_enter Tryz.func201, Tryz.ntmps201
       go_wp2
       go_ret
       exact ⟨retB (by first | exact HE.out.symm | (rw [HE.out]; simp; omega)), rfl⟩)
    | (have e : isLet c = false := by (unfold isLet; simp; omega)
       have HE := Lib.hid e
       clear e
       go_enter Tryz.func201, Tryz.ntmps201
       go_wp2
       go_ret
       exact ⟨retB (by first | exact HE.out.symm | (rw [HE.out]; simp; omega)), rfl⟩)

set_option maxHeartbeats 4000000 in
set_option maxRecDepth 100000 in
theorem isDigit_any (c : UInt8) (w : World) : Calls Tryz.prog 202 #[.int .u8 c.toNat] w fun e w' => e = .returned (.bool (isDig c)) ∧ w' = w := by
  by_cases a1 : (48 : Int) ≤ c.toNat <;> by_cases a2 : (c.toNat : Int) ≤ 57
  all_goals try omega
  all_goals
    first
    | (have e : isDig c = true := by (unfold isDig; simp; omega)
       have HE := Lib.hid e
       clear e
       go_enter Tryz.func202, Tryz.ntmps202
       go_wp2
       go_ret
       exact ⟨retB (by first | exact HE.out.symm | (rw [HE.out]; simp; omega)), rfl⟩)
    | (have e : isDig c = false := by (unfold isDig; simp; omega)
       have HE := Lib.hid e
       clear e
       go_enter Tryz.func202, Tryz.ntmps202
       go_wp2
       go_ret
       exact ⟨retB (by first | exact HE.out.symm | (rw [HE.out]; simp; omega)), rfl⟩)

/-- the bytes of a text from a place on -/
theorem drop_at (s : ByteArray) (k : Nat) (h : k < s.size) : s.data.toList.drop k = s[k] :: s.data.toList.drop (k + 1) := by
  have hl : s.data.toList.length = s.size := by simp
  rw [List.drop_eq_getElem_cons (by omega)]
  rfl
theorem emptyF (s : ByteArray) (h : 0 < s.size) : s.toList.isEmpty = false := by
  have hl : s.data.toList.length = s.size := by simp
  rw [ByteArray.toList_eq, List.isEmpty_eq_false_iff]
  intro e; rw [e] at hl; simp at hl; omega
theorem emptyT (s : ByteArray) (h : s.size = 0) : s.toList.isEmpty = true := by
  have hl : s.data.toList.length = s.size := by simp
  rw [ByteArray.toList_eq, List.isEmpty_iff]
  exact List.eq_nil_of_length_eq_zero (by omega)
theorem listNil (s : ByteArray) (h : s.size = 0) : s.data.toList = [] := by
  have hl : s.data.toList.length = s.size := by simp
  exact List.eq_nil_of_length_eq_zero (by omega)
theorem drop_all (s : ByteArray) : s.data.toList.drop s.size = [] := List.drop_eq_nil_of_le (by simp)

set_option maxHeartbeats 4000000 in
set_option maxRecDepth 100000 in
theorem wordSize_any (s : ByteArray) (w : World) (hs : s.size ≤ 140737488355328) : Calls Tryz.prog 138 #[.string s] w fun e w' => e = .returned (.int .i64 (wordN s.data.toList)) ∧ w' = w := by
  by_cases h0 : s.size = 0
  · have hem := emptyT s h0
    have e : wordN s.data.toList = 0 := by rw [listNil s h0]; rfl
    have HE := Lib.hid e
    clear e h0
    go_enter Tryz.func138, Tryz.ntmps138
    go_wp2
    go_ret
    exact ⟨retI (by rw [HE.out]; rfl), rfl⟩
  · have hlt : 0 < s.size := by omega
    have hem := emptyF s hlt
    have L0 := fun W => isLetter_any (s[0]'hlt) W
    have hd := drop_at s 0 hlt
    rw [List.drop_zero] at hd
    have hw : wordN s.data.toList = if isLet (s[0]'hlt) = true then wordT (s.data.toList.drop 1) + 1 else 0 := by
      conv => lhs; rw [hd]
      rfl
    have HW := Lib.hid hw
    clear h0 hd hw
    cases hc : isLet (s[0]'hlt)
    · rw [hc] at HW
      simp only [hc] at L0
      have HL := Lib.hid L0
      clear L0 hc
      go_enter Tryz.func138, Tryz.ntmps138
      go_wp2_with fail
      refine (HL.out _).mono ?_
      rintro e w1 ⟨rfl, rfl⟩
      go_wp2
      go_ret
      exact ⟨retI (by rw [HW.out]; rfl), rfl⟩
    · rw [hc] at HW
      simp only [hc] at L0
      have HL := Lib.hid L0
      clear L0 hc
      go_enter Tryz.func138, Tryz.ntmps138
      go_wp2_with fail
      refine (HL.out _).mono ?_
      rintro e w1 ⟨rfl, rfl⟩
      go_wp2
      go_loopw [3] (fun vn wr => ∃ k : Nat, 1 ≤ k ∧ k ≤ s.size ∧ vn = .int .i64 k ∧ Hid (k + wordT (s.data.toList.drop k) = wordN s.data.toList) ∧ wr = w1) (fun vn _ => s.size - (intOf vn).toNat)
      case atStart => exact ⟨1, Nat.le_refl _, by omega, rfl, by unfold Hid; rw [HW.out]; simp; omega, rfl⟩
      case round =>
        obtain ⟨k, hk1, hk, rfl, hT, rfl⟩ := hrel
        by_cases hlk : k < s.size
        · have M1 := fun W => isLetter_any (s[k]'hlk) W
          have M2 := fun W => isDigit_any (s[k]'hlk) W
          have hst := hT.out
          rw [drop_at s k hlk, wordT] at hst
          cases q1 : isLet (s[k]'hlk)
          · simp only [q1] at M1 hst
            cases q2 : isDig (s[k]'hlk)
            · simp only [q2] at M2 hst
              have HM1 := Lib.hid M1
              have HM2 := Lib.hid M2
              have HS := Lib.hid hst
              clear M1 M2 hst q1 q2 hT HL
              go_wp2_with fail
              refine (HM1.out _).mono ?_
              rintro e w2 ⟨rfl, rfl⟩
              go_wp2_with fail
              refine (HM2.out _).mono ?_
              rintro e w3 ⟨rfl, rfl⟩
              go_wp2
              go_ret
              exact ⟨retI (by rw [← HS.out]; simp), rfl⟩
            · simp only [q2] at M2 hst
              have HM1 := Lib.hid M1
              have HM2 := Lib.hid M2
              have HS := Lib.hid hst
              clear M1 M2 hst q1 q2 hT HL
              go_wp2_with fail
              refine (HM1.out _).mono ?_
              rintro e w2 ⟨rfl, rfl⟩
              go_wp2_with fail
              refine (HM2.out _).mono ?_
              rintro e w3 ⟨rfl, rfl⟩
              go_wp2
              go_roundw
              case rel => exact ⟨k + 1, by omega, by omega, by go_num, by unfold Hid; rw [← HS.out]; simp; omega, trivial⟩
              case measure => simp [intOf]; omega
          · simp only [q1] at M1 hst
            have HM1 := Lib.hid M1
            have HS := Lib.hid hst
            clear M1 M2 hst q1 hT HL
            go_wp2_with fail
            refine (HM1.out _).mono ?_
            rintro e w2 ⟨rfl, rfl⟩
            go_wp2
            go_roundw
            case rel => exact ⟨k + 1, by omega, by omega, by go_num, by unfold Hid; rw [← HS.out]; simp; omega, trivial⟩
            case measure => simp [intOf]; omega
        · obtain rfl : k = s.size := by omega
          have hst := hT.out
          rw [drop_all] at hst
          have HS := Lib.hid hst
          clear hst hT HL
          go_wp2
          go_ret
          exact ⟨retI (by rw [← HS.out]; simp [wordT]), rfl⟩

end Go.Proofs.YtjdpkhjoecfhlaaGreatDoor
