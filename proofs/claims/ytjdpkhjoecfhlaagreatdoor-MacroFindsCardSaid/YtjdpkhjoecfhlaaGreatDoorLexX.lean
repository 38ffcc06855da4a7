/- Lex, in the document: quotes. -/
import Derived.Test.YtjdpkhjoecfhlaaGreatDoorLexV
namespace Go.Proofs.YtjdpkhjoecfhlaaGreatDoor
open Go.RowKit Go.Maps Go.Shelf

theorem quoT_at (s : ByteArray) (q : UInt8) (tk : Bool) (i : Nat) (h : i < s.size) : quoT q tk (s.data.toList.drop i) = if s[i].toNat = 10 then (0, false) else if s[i] = q ∧ tk = false then (1, true) else ((quoT q (decide (s[i].toNat = 92) && !tk) (s.data.toList.drop (i + 1))).1 + 1, (quoT q (decide (s[i].toNat = 92) && !tk) (s.data.toList.drop (i + 1))).2) := by
  rw [drop_at s i h, quoT]
theorem quoT_end (s : ByteArray) (q : UInt8) (tk : Bool) (i : Nat) (h : ¬ i < s.size) : quoT q tk (s.data.toList.drop i) = (0, false) := by
  rw [List.drop_eq_nil_of_le (by simp; omega), quoT]

def quoV (s : ByteArray) (k : Nat) : Nat := if (quoN (s.data.toList.drop k)).2 = true then k + (quoN (s.data.toList.drop k)).1 else k

set_option maxHeartbeats 4000000 in
set_option maxRecDepth 100000 in
theorem refQuoted_any (s : ByteArray) (k : Nat) (hk : k < s.size) (w : World) (hs : s.size ≤ 140737488355328) :
    Calls Tryz.prog 157 #[.string s, .int .i64 k] w fun e w' => e = .returned (.int .i64 (quoV s k)) ∧ ∃ n, w' = w.drewN n := by
  have hkI : (k : Int) < s.size := by omega
  have hsI : (s.size : Int) ≤ 140737488355328 := by omega
  have hV : quoV s k = if (quoT s[k] false (s.data.toList.drop (k + 1))).2 = true then k + 1 + (quoT s[k] false (s.data.toList.drop (k + 1))).1 else k := by
    unfold quoV
    rw [drop_at s k hk, quoN]
    simp only
    split
    · omega
    · rfl
  generalize quoV s k = V at *
  have hX : ∃ X, X = quoT s[k] false (s.data.toList.drop (k + 1)) := ⟨_, rfl⟩
  obtain ⟨X, hX⟩ := hX
  rw [← hX] at hV
  have HV := Lib.hid hV
  have HX := Lib.hid hX
  clear hs hV hX
  go_enter Tryz.func157, Tryz.ntmps157
  go_wp2_with fail
  go_loopw [5] (fun vi wr => ∃ i : Nat, k + 1 ≤ i ∧ i ≤ s.size + 1 ∧ vi = .int .i64 i ∧ Hid ((quoT s[k] false (s.data.toList.drop i)).2 = X.2 ∧ (X.2 = true → i + (quoT s[k] false (s.data.toList.drop i)).1 = k + 1 + X.1)) ∧ Hid (∃ n, wr = w.drewN n)) (fun vi _ => s.size + 1 - (intOf vi).toNat)
  case atStart => exact ⟨k + 1, Nat.le_refl _, by omega, by go_num, ⟨by rw [HX.out], fun _ => by rw [HX.out]⟩, 0, rfl⟩
  case round =>
    obtain ⟨i, hi1, hi2, rfl, hT, hW⟩ := hrel
    by_cases hlt : i < s.size
    · have hltI : (i : Int) < s.size := by omega
      have hst := hT.out
      rw [quoT_at s _ _ i hlt] at hst
      by_cases c10 : (s[i]'hlt).toNat = 10
      · rw [if_pos c10] at hst
        have hv : V = k := by rw [HV.out, ← hst.1]; rfl
        have HVV := Lib.hid hv
        have c10I : (((s[i]'hlt).toNat : Nat) : Int) = 10 := by omega
        clear hst hT c10 hv
        go_wp2
        go_ret
        exact ⟨retI (by rw [HVV.out]), hW.out⟩
      · rw [if_neg c10] at hst
        have c10I : ¬ (((s[i]'hlt).toNat : Nat) : Int) = 10 := by omega
        by_cases cq : s[i]'hlt = s[k]
        · rw [if_pos ⟨cq, rfl⟩] at hst
          have hv : V = i + 1 := by
            rw [HV.out, ← hst.1]
            have := hst.2 hst.1.symm
            simp only at this
            simp only [if_true]
            omega
          have HVV := Lib.hid hv
          have cqI : ((((s[i]'hlt).toNat : Nat) : Int) == ((s[k].toNat : Nat) : Int)) = true := by rw [cq]; simp
          have cqJ : decide ((((s[i]'hlt).toNat : Nat) : Int) = ((s[k].toNat : Nat) : Int)) = true := by rw [cq]; simp
          clear hst hT c10 hv cq
          go_wp2
          go_quiet (fail)
          go_wp2
          go_ret
          exact ⟨retI (by rw [HVV.out]; omega), by obtain ⟨q, e⟩ := hW.out; exact ⟨q + nq, by rw [e]; simp [World.drewN, Nat.add_assoc]⟩⟩
        · have cqN : ¬ (((s[i]'hlt).toNat : Nat) : Int) = ((s[k].toNat : Nat) : Int) := fun g => cq (UInt8.toNat_inj.1 (by omega))
          have cqB : ((((s[i]'hlt).toNat : Nat) : Int) == ((s[k].toNat : Nat) : Int)) = false := by simpa using cqN
          rw [if_neg (fun g => cq g.1)] at hst
          by_cases c92 : (s[i]'hlt).toNat = 92
          · have c92I : (((s[i]'hlt).toNat : Nat) : Int) = 92 := by omega
            rw [c92] at hst
            simp only [decide_true, Bool.not_false, Bool.and_self] at hst
            have c92B : ((92 : Int) == ((s[k].toNat : Nat) : Int)) = false := by rw [← c92I]; exact cqB
            have c92N : ¬ (92 : Int) = ((s[k].toNat : Nat) : Int) := by rw [← c92I]; exact cqN
            by_cases hl2 : i + 1 < s.size
            · rw [quoT_at s _ _ (i + 1) hl2] at hst
              have hl2I : (i : Int) + 1 < s.size := by omega
              have h1I : ((i + 1 : Nat) : Int) = i + 1 := by omega
              by_cases d10 : (s[i + 1]'hl2).toNat = 10
              · rw [if_pos d10] at hst
                have hv : V = k := by rw [HV.out, ← hst.1]; rfl
                have HVV := Lib.hid hv
                have d10I : (((s[i + 1]'hl2).toNat : Nat) : Int) = 10 := by omega
                clear hst hT c10 hv cq cqB cqN c92 d10
                go_wp2
                go_quiet (fail)
                go_wp2
                go_ret
                exact ⟨retI (by rw [HVV.out]), by obtain ⟨q, e⟩ := hW.out; exact ⟨q + nq, by rw [e]; simp [World.drewN, Nat.add_assoc]⟩⟩
              · rw [if_neg d10, if_neg (fun g => by simp at g)] at hst
                simp only [Bool.not_true, Bool.and_false] at hst
                have HST := Lib.hid hst
                have d10I : ¬ (((s[i + 1]'hl2).toNat : Nat) : Int) = 10 := by omega
                clear hst hT c10 cq cqB cqN c92 d10
                go_wp2
                go_quiet (fail)
                go_wp2
                go_roundw
                case rel => exact ⟨i + 2, by omega, by omega, by go_num, ⟨HST.out.1, fun g => by have := HST.out.2 g; rw [show i + 1 + 1 = i + 2 from rfl] at this; omega⟩, by obtain ⟨q, e⟩ := hW.out; exact ⟨q + nq, by rw [e]; simp [World.drewN, Nat.add_assoc]⟩⟩
                case measure => simp [intOf]; omega
            · rw [quoT_end s _ _ (i + 1) hl2] at hst
              have hl2I : ¬ (i : Int) + 1 < s.size := by omega
              have hx := hst.1
              have HX2 := Lib.hid hx
              clear hst hT c10 cq cqB cqN c92 hx
              go_wp2
              go_quiet (fail)
              go_wp2
              go_roundw
              case rel => exact ⟨i + 2, by omega, by omega, by go_num, ⟨by rw [quoT_end s _ _ (i + 2) (by omega)]; exact HX2.out, fun g => by rw [← HX2.out] at g; cases g⟩, by obtain ⟨q, e⟩ := hW.out; exact ⟨q + nq, by rw [e]; simp [World.drewN, Nat.add_assoc]⟩⟩
              case measure => simp [intOf]; omega
          · have c92I : ¬ (((s[i]'hlt).toNat : Nat) : Int) = 92 := by omega
            rw [decide_eq_false c92] at hst
            simp only [Bool.not_false, Bool.and_true] at hst
            have HST := Lib.hid hst
            clear hst hT c10 cq c92
            go_wp2
            go_quiet (fail)
            go_wp2
            go_roundw
            case rel => exact ⟨i + 1, by omega, by omega, by go_num, ⟨HST.out.1, fun g => by have := HST.out.2 g; omega⟩, by obtain ⟨q, e⟩ := hW.out; exact ⟨q + nq, by rw [e]; simp [World.drewN, Nat.add_assoc]⟩⟩
            case measure => simp [intOf]; omega
    · have hst := hT.out
      rw [quoT_end s _ _ i hlt] at hst
      have hv : V = k := by rw [HV.out, ← hst.1]; rfl
      have HVV := Lib.hid hv
      have hnl : ¬ (i : Int) < s.size := by omega
      clear hst hT hv
      go_wp2
      go_ret
      exact ⟨retI (by rw [HVV.out]), hW.out⟩

end Go.Proofs.YtjdpkhjoecfhlaaGreatDoor
