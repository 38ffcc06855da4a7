/- Lex: numbers and quotes: the walks. -/
import Derived.Test.YtjdpkhjoecfhlaaGreatDoorLexA
import Derived.Shelf.Abstract
namespace Go.Proofs.YtjdpkhjoecfhlaaGreatDoor
open Go.RowKit Go.Maps Go.Shelf

theorem u8_eqL {c : UInt8} {n : Nat} (h : (c.toNat : Int) = n) : c.toNat = n := by omega

set_option maxHeartbeats 4000000 in
set_option maxRecDepth 100000 in
theorem inNumber_any (p c : UInt8) (w : World) : Calls Tryz.prog 203 #[.int .u8 p.toNat, .int .u8 c.toNat] w fun e w' => e = .returned (.bool (inNum p c)) ∧ w' = w := by
  have M1 := fun W => isLetter_any c W
  have M2 := fun W => isDigit_any c W
  by_cases s1 : (c.toNat : Int) = 43 ∨ (c.toNat : Int) = 45
  · have e : inNum p c = (decide (p.toNat = 101) || decide (p.toNat = 69)) := by unfold inNum; rw [if_pos (by omega)]
    by_cases p1 : (p.toNat : Int) = 101
    · have e2 : inNum p c = true := by rw [e, decide_eq_true (by omega)]; rfl
      have HE := Lib.hid e2
      clear e e2 M1 M2
      rcases s1 with s1 | s1
      all_goals
        go_enter Tryz.func203, Tryz.ntmps203
        go_wp2
        go_ret
        exact ⟨retB HE.out.symm, rfl⟩
    · by_cases p2 : (p.toNat : Int) = 69
      · have e2 : inNum p c = true := by rw [e, decide_eq_true (by omega : p.toNat = 69)]; simp
        have HE := Lib.hid e2
        clear e e2 M1 M2
        rcases s1 with s1 | s1
        all_goals
          go_enter Tryz.func203, Tryz.ntmps203
          go_wp2
          go_ret
          exact ⟨retB HE.out.symm, rfl⟩
      · have e2 : inNum p c = false := by rw [e, decide_eq_false (by omega : ¬ p.toNat = 69), decide_eq_false (by omega : ¬ p.toNat = 101)]; rfl
        have HE := Lib.hid e2
        clear e e2 M1 M2
        rcases s1 with s1 | s1
        all_goals
          go_enter Tryz.func203, Tryz.ntmps203
          go_wp2
          go_ret
          exact ⟨retB (by first | exact HE.out.symm | (rw [HE.out]; simp; omega)), rfl⟩
  · have s2 : ¬ (c.toNat : Int) = 43 := by omega
    have s3 : ¬ (c.toNat : Int) = 45 := by omega
    by_cases s4 : (c.toNat : Int) = 46
    · have e2 : inNum p c = true := by unfold inNum; rw [if_neg (by omega), if_pos (by omega)]
      have HE := Lib.hid e2
      clear e2 M1 M2 s1
      go_enter Tryz.func203, Tryz.ntmps203
      go_wp2
      go_ret
      exact ⟨retB HE.out.symm, rfl⟩
    · have e2 : inNum p c = (isLet c || isDig c) := by unfold inNum; rw [if_neg (by omega), if_neg (by omega)]
      generalize isLet c = b1 at *
      generalize isDig c = b2 at *
      have HE := Lib.hid e2
      have HM1 := Lib.hid M1
      have HM2 := Lib.hid M2
      clear e2 M1 M2 s1
      cases b1
      · go_enter Tryz.func203, Tryz.ntmps203
        go_wp2_with fail
        refine (HM1.out _).mono ?_
        rintro e w2 ⟨rfl, rfl⟩
        go_wp2_with fail
        refine (HM2.out _).mono ?_
        rintro e w2 ⟨rfl, rfl⟩
        go_wp2
        go_ret
        exact ⟨retB (by rw [HE.out]; simp), rfl⟩
      · go_enter Tryz.func203, Tryz.ntmps203
        go_wp2_with fail
        refine (HM1.out _).mono ?_
        rintro e w2 ⟨rfl, rfl⟩
        go_wp2
        go_ret
        exact ⟨retB (by rw [HE.out]; simp), rfl⟩

theorem begNum_list (s : ByteArray) (h : 0 < s.size) : begNum s.data.toList = (isDig (s[0]'h) || (decide ((s[0]'h).toNat = 46) && (if h1 : 1 < s.size then isDig (s[1]'h1) else false))) := by
  have hd := drop_at s 0 h
  rw [List.drop_zero] at hd
  rw [hd]
  by_cases h1 : 1 < s.size
  · rw [dif_pos h1, drop_at s 1 h1]; rfl
  · rw [dif_neg h1]
    have : s.data.toList.drop 1 = [] := List.drop_eq_nil_of_le (by simp; omega)
    rw [this]; simp [begNum]

set_option maxHeartbeats 4000000 in
set_option maxRecDepth 100000 in
theorem numberSize_any (s : ByteArray) (w : World) (hlt : 0 < s.size) (hs : s.size ≤ 140737488355328) : Calls Tryz.prog 139 #[.string s] w fun e w' => e = .returned (.int .i64 (numN s.data.toList)) ∧ ∃ n, w' = w.drewN n := by
  have hb := begNum_list s hlt
  have hd := drop_at s 0 hlt
  rw [List.drop_zero] at hd
  have hw : numN s.data.toList = if begNum s.data.toList = true then numT (s[0]'hlt) (s.data.toList.drop 1) + 1 else 0 := by
    conv => lhs; rw [hd]
    conv => rhs; rw [hd]
    rfl
  have en : ∀ args w, (callFunc 203 args).run Tryz.prog w = .ok (.enter 203 args) w := enters_of Tryz.func203 (by kernel_rfl) rfl
  have D0 := fun W => isDigit_any (s[0]'hlt) W
  have HD0 := Lib.hid D0
  have key : (isDig (s[0]'hlt) = true ∧ begNum s.data.toList = true) ∨
      (isDig (s[0]'hlt) = false ∧ (((s[0]'hlt).toNat : Int) == 46) = false ∧ begNum s.data.toList = false) ∨
      (isDig (s[0]'hlt) = false ∧ (((s[0]'hlt).toNat : Int) == 46) = true ∧ ¬ (1 : Int) < s.size ∧ begNum s.data.toList = false) ∨
      (∃ h1 : 1 < s.size, isDig (s[0]'hlt) = false ∧ (((s[0]'hlt).toNat : Int) == 46) = true ∧ isDig (s[1]'h1) = false ∧ begNum s.data.toList = false) ∨
      (∃ h1 : 1 < s.size, isDig (s[0]'hlt) = false ∧ (((s[0]'hlt).toNat : Int) == 46) = true ∧ isDig (s[1]'h1) = true ∧ begNum s.data.toList = true) := by
    rw [hb]
    cases q0 : isDig (s[0]'hlt)
    · by_cases q1 : ((s[0]'hlt).toNat : Int) = 46
      · rw [decide_eq_true (by omega : (s[0]'hlt).toNat = 46)]
        by_cases q2 : 1 < s.size
        · rw [dif_pos q2]
          cases q3 : isDig (s[1]'q2)
          · exact .inr (.inr (.inr (.inl ⟨q2, rfl, by simpa using q1, q3, rfl⟩)))
          · exact .inr (.inr (.inr (.inr ⟨q2, rfl, by simpa using q1, q3, rfl⟩)))
        · rw [dif_neg q2]
          exact .inr (.inr (.inl ⟨rfl, by simpa using q1, by omega, rfl⟩))
      · rw [decide_eq_false (by omega : ¬ (s[0]'hlt).toNat = 46)]
        exact .inr (.inl ⟨rfl, by simpa using q1, rfl⟩)
    · exact .inl ⟨rfl, rfl⟩
  have HW := Lib.hid hw
  clear hb hd hw D0
  rcases key with ⟨k1, k2⟩ | ⟨k1, k2, k3⟩ | ⟨k1, k2, k3, k4⟩ | ⟨h1, k1, k2, k3, k4⟩ | ⟨h1, k1, k2, k3, k4⟩
  · rw [k1] at HD0
    rw [k2] at HW
    clear k1 k2
    go_enter Tryz.func139, Tryz.ntmps139
    go_wp2_with fail
    refine (HD0.out _).mono ?_
    rintro e w0 ⟨rfl, rfl⟩
    go_wp2
    go_loopw [3] (fun vn wr => ∃ (k : Nat) (_ : k - 1 < s.size), 1 ≤ k ∧ k ≤ s.size ∧ vn = .int .i64 k ∧ Hid (k + numT (s[k - 1]) (s.data.toList.drop k) = numN s.data.toList) ∧ Hid (∃ q, wr = w0.drewN q)) (fun vn _ => s.size - (intOf vn).toNat)
    case atStart => exact ⟨1, by omega, Nat.le_refl _, by omega, rfl, by unfold Hid; rw [HW.out]; simp; exact Nat.add_comm _ _, 0, rfl⟩
    case round =>
      obtain ⟨k, hk0, hk1, hk, rfl, hT, hW⟩ := hrel
      by_cases hlk : k < s.size
      · have M1 := fun W => inNumber_any (s[k - 1]'hk0) (s[k]'hlk) W
        have hst := hT.out
        rw [drop_at s k hlk, numT] at hst
        have hwr : IntKind.i64.wrap ((k : Int) - 1) = ((k - 1 : Nat) : Int) := by
          have h1 : ((k - 1 : Nat) : Int) = (k : Int) - 1 := by omega
          rw [h1]
          exact IntWalk.i64_in _ (by omega)
        cases q1 : inNum (s[k - 1]'hk0) (s[k]'hlk)
        · simp only [q1] at M1 hst
          have HM1 := Lib.hid M1
          have HS := Lib.hid hst
          clear M1 hst q1 hT HD0
          go_wp2_with fail
          go_quiet (first | (go_at_call 203; exact Calls.quiet_of_same (HM1.out _)))
          go_wp2
          go_ret
          exact ⟨retI (by rw [← HS.out]; simp), by obtain ⟨q, e⟩ := hW.out; exact ⟨q + nq, by rw [e]; simp [World.drewN, Nat.add_assoc]⟩⟩
        · simp only [q1] at M1 hst
          have HM1 := Lib.hid M1
          have HS := Lib.hid hst
          clear M1 hst q1 hT HD0
          go_wp2_with fail
          go_quiet (first | (go_at_call 203; exact Calls.quiet_of_same (HM1.out _)))
          go_wp2
          go_roundw
          case rel => exact ⟨k + 1, hlk, by omega, by omega, by go_num, by unfold Hid; rw [← HS.out]; simp; omega, by obtain ⟨q, e⟩ := hW.out; exact ⟨q + nq, by rw [e]; simp [World.drewN, Nat.add_assoc]⟩⟩
          case measure => simp [intOf]; omega
      · obtain rfl : k = s.size := by omega
        have hst := hT.out
        rw [drop_all] at hst
        have HS := Lib.hid hst
        clear hst hT HD0
        go_wp2_with fail
        go_quiet (fail)
        go_wp2
        go_ret
        exact ⟨retI (by rw [← HS.out]; simp [numT]), by obtain ⟨q, e⟩ := hW.out; exact ⟨q + nq, by rw [e]; simp [World.drewN, Nat.add_assoc]⟩⟩
  · rw [k1] at HD0
    rw [k3] at HW
    clear k1 k3
    go_enter Tryz.func139, Tryz.ntmps139
    go_wp2_with fail
    refine (HD0.out _).mono ?_
    rintro e w2 ⟨rfl, rfl⟩
    go_wp2
    go_ret
    exact ⟨retI (by rw [HW.out]; rfl), 0, rfl⟩
  · rw [k1] at HD0
    rw [k4] at HW
    clear k1 k4
    go_enter Tryz.func139, Tryz.ntmps139
    go_wp2_with fail
    refine (HD0.out _).mono ?_
    rintro e w2 ⟨rfl, rfl⟩
    go_wp2
    go_ret
    exact ⟨retI (by rw [HW.out]; rfl), 0, rfl⟩
  · rw [k1] at HD0
    rw [k4] at HW
    have D1 := fun W => isDigit_any (s[1]'h1) W
    rw [k3] at D1
    have HD1 := Lib.hid D1
    clear k1 k3 k4 D1
    go_enter Tryz.func139, Tryz.ntmps139
    go_wp2_with fail
    refine (HD0.out _).mono ?_
    rintro e w2 ⟨rfl, rfl⟩
    go_wp2_with fail
    refine (HD1.out _).mono ?_
    rintro e w2 ⟨rfl, rfl⟩
    go_wp2
    go_ret
    exact ⟨retI (by rw [HW.out]; rfl), 0, rfl⟩
  · rw [k1] at HD0
    rw [k4] at HW
    have D1 := fun W => isDigit_any (s[1]'h1) W
    rw [k3] at D1
    have HD1 := Lib.hid D1
    clear k1 k3 k4 D1
    go_enter Tryz.func139, Tryz.ntmps139
    go_wp2_with fail
    refine (HD0.out _).mono ?_
    rintro e w2 ⟨rfl, rfl⟩
    go_wp2_with fail
    refine (HD1.out _).mono ?_
    rintro e w0 ⟨rfl, rfl⟩
    go_wp2
    go_loopw [3] (fun vn wr => ∃ (k : Nat) (_ : k - 1 < s.size), 1 ≤ k ∧ k ≤ s.size ∧ vn = .int .i64 k ∧ Hid (k + numT (s[k - 1]) (s.data.toList.drop k) = numN s.data.toList) ∧ Hid (∃ q, wr = w0.drewN q)) (fun vn _ => s.size - (intOf vn).toNat)
    case atStart => exact ⟨1, by omega, Nat.le_refl _, by omega, rfl, by unfold Hid; rw [HW.out]; simp; exact Nat.add_comm _ _, 0, rfl⟩
    case round =>
      obtain ⟨k, hk0, hk1, hk, rfl, hT, hW⟩ := hrel
      by_cases hlk : k < s.size
      · have M1 := fun W => inNumber_any (s[k - 1]'hk0) (s[k]'hlk) W
        have hst := hT.out
        rw [drop_at s k hlk, numT] at hst
        have hwr : IntKind.i64.wrap ((k : Int) - 1) = ((k - 1 : Nat) : Int) := by
          have h1 : ((k - 1 : Nat) : Int) = (k : Int) - 1 := by omega
          rw [h1]
          exact IntWalk.i64_in _ (by omega)
        cases q1 : inNum (s[k - 1]'hk0) (s[k]'hlk)
        · simp only [q1] at M1 hst
          have HM1 := Lib.hid M1
          have HS := Lib.hid hst
          clear M1 hst q1 hT HD0
          go_wp2_with fail
          go_quiet (first | (go_at_call 203; exact Calls.quiet_of_same (HM1.out _)))
          go_wp2
          go_ret
          exact ⟨retI (by rw [← HS.out]; simp), by obtain ⟨q, e⟩ := hW.out; exact ⟨q + nq, by rw [e]; simp [World.drewN, Nat.add_assoc]⟩⟩
        · simp only [q1] at M1 hst
          have HM1 := Lib.hid M1
          have HS := Lib.hid hst
          clear M1 hst q1 hT HD0
          go_wp2_with fail
          go_quiet (first | (go_at_call 203; exact Calls.quiet_of_same (HM1.out _)))
          go_wp2
          go_roundw
          case rel => exact ⟨k + 1, hlk, by omega, by omega, by go_num, by unfold Hid; rw [← HS.out]; simp; omega, by obtain ⟨q, e⟩ := hW.out; exact ⟨q + nq, by rw [e]; simp [World.drewN, Nat.add_assoc]⟩⟩
          case measure => simp [intOf]; omega
      · obtain rfl : k = s.size := by omega
        have hst := hT.out
        rw [drop_all] at hst
        have HS := Lib.hid hst
        clear hst hT HD0
        go_wp2_with fail
        go_quiet (fail)
        go_wp2
        go_ret
        exact ⟨retI (by rw [← HS.out]; simp [numT]), by obtain ⟨q, e⟩ := hW.out; exact ⟨q + nq, by rw [e]; simp [World.drewN, Nat.add_assoc]⟩⟩

end Go.Proofs.YtjdpkhjoecfhlaaGreatDoor
