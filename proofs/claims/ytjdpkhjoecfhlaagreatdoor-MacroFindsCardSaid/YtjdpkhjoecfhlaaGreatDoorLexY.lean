/- Lex, in the document: signs. -/
import Derived.Test.YtjdpkhjoecfhlaaGreatDoorLexX
namespace Go.Proofs.YtjdpkhjoecfhlaaGreatDoor
open Go.RowKit Go.Maps Go.Shelf

theorem signG_append (l : List UInt8) (g : List UInt8) (hg : g ≠ []) : ∀ L : List (List UInt8), (∀ x ∈ L, x ≠ []) → signG (L ++ [g]) l = if signG L l ≠ 0 then signG L l else if g.isPrefixOf l = true then g.length else 0
  | [], _ => by simp [signG]
  | x :: L, h => by
    have hx := List.length_pos_iff.2 (h x (by simp))
    rw [List.cons_append, signG, signG, signG_append l g hg L (fun y hy => h y (by simp [hy]))]
    by_cases c : x.isPrefixOf l = true
    · rw [if_pos c, if_pos c, if_pos (by omega)]
    · rw [if_neg c, if_neg c]
theorem signG_mem (l : List UInt8) : ∀ L : List (List UInt8), signG L l ≠ 0 → ∃ g ∈ L, signG L l = g.length
  | [], h => absurd rfl h
  | x :: L, h => by
    rw [signG] at h ⊢
    by_cases c : x.isPrefixOf l = true
    · rw [if_pos c]; exact ⟨x, by simp, rfl⟩
    · rw [if_neg c] at h ⊢
      obtain ⟨g, hg, e⟩ := signG_mem l L h
      exact ⟨g, by simp [hg], e⟩
theorem signs_ne : ∀ x ∈ signsL, x ≠ [] := by decide
theorem signs_len : signsL.length = 47 := by decide
theorem signsRdY (w : World) (j : Nat) (h : j < 47) : (w.alloc (.cells signsV 9)).cell? ⟨w.heap.size, j, none⟩ = some (.string (toB (signsL.getD j []))) := by
  have hb : j < signsB.length := by rw [signsB_len]; exact h
  have hj : j < signsL.length := by rw [signs_len]; exact h
  rw [Blk.cell (Blk.new w 9 signsV)]
  unfold signsV
  have e := signsB_get j hb
  simp [hb, hj, e]
theorem signs_desc : ∀ j : Fin 47, ∀ g ∈ signsL.take j.1, (signsL.getD j.1 []).length ≤ g.length := by decide
theorem signG_step (l : List UInt8) (j : Nat) (h : j < 47) : signG (signsL.take (j + 1)) l = if (signsL.getD j []).length ≤ signG (signsL.take j) l then signG (signsL.take j) l else if (signsL.getD j []).isPrefixOf l = true then (signsL.getD j []).length else signG (signsL.take j) l := by
  have hj : j < signsL.length := by rw [signs_len]; exact h
  have e : signsL.getD j [] = signsL[j] := by simp [hj]
  have hm : signsL[j] ∈ signsL := List.getElem_mem hj
  have hp := List.length_pos_iff.2 (signs_ne _ hm)
  rw [List.take_succ_eq_append_getElem hj, signG_append _ _ (signs_ne _ hm) _ (fun x hx => signs_ne x (List.mem_of_mem_take hx)), e]
  by_cases c : signG (signsL.take j) l ≠ 0
  · obtain ⟨g, hg, e2⟩ := signG_mem _ _ c
    have := signs_desc ⟨j, h⟩ g hg
    rw [e] at this
    rw [if_pos c, if_pos (by omega)]
  · rw [if_neg c]
    have c0 : signG (signsL.take j) l = 0 := by omega
    rw [c0]
    have hn : ¬ signsL[j].length ≤ 0 := by omega
    simp only [if_neg hn]

set_option maxHeartbeats 4000000 in
set_option maxRecDepth 100000 in
theorem refSign_any (s : ByteArray) (k : Nat) (hk : k ≤ s.size) (w : World) (hs : s.size ≤ 140737488355328) :
    Calls Tryz.prog 158 #[.string s, .int .i64 k] w fun e w' => (∃ b : ByteArray, e = .returned (.string b) ∧ b.size = signN (s.data.toList.drop k)) ∧ Below w.heap.size w w' := by
  have B := fun t W (ht : t.size ≤ 140737488355328) => begins_any s t k hk W hs ht
  have HB := Lib.hid B
  have hc := signsRdY w
  have HC := Lib.hid hc
  clear B hc hs
  go_enter Tryz.func158, Tryz.ntmps158
  go_wp2_with fail
  refine (refSigns_any _).mono ?_
  rintro e w1 ⟨rfl, hw1⟩
  have hb1 : Below w.heap.size w w1 := by rw [hw1]; exact (Below.refl _ _).alloc (Nat.le_refl _) _
  rw [← hw1] at HC
  have HB1 := Lib.hid hb1
  clear hb1 hw1
  go_wp2_with fail
  go_loopw [5, 7] (fun bv vi wr => ∃ (j : Nat) (b : ByteArray), j ≤ 47 ∧ vi = .int .i64 j ∧ bv = .string b ∧ Hid (b.size = signG (signsL.take j) (s.data.toList.drop k)) ∧ b.size ≤ 3 ∧ wr = w1) (fun _ vi _ => 47 - (intOf vi).toNat)
  case atStart => exact ⟨0, ⟨#[]⟩, Nat.zero_le _, rfl, rfl, rfl, by decide, rfl⟩
  case round =>
    obtain ⟨j, b, hj, rfl, rfl, hT, hb3, rfl⟩ := hrel
    by_cases hlt : j < 47
    · have hltI : (j : Int) < 47 := by omega
      have hst := signG_step (s.data.toList.drop k) j hlt
      have c0 := HC.out j hlt
      have hz : (toB (signsL.getD j [])).data.toList = signsL.getD j [] := toB_list _
      have hz2 : (toB (signsL.getD j [])).size = (signsL.getD j []).length := by
        have h := congrArg List.length hz
        rw [← h, Array.length_toList]; rfl
      have hz3 : (signsL.getD j []).length ≤ 3 := (show ∀ j : Fin 47, (signsL.getD j.1 []).length ≤ 3 by decide) ⟨j, hlt⟩
      have hP := HB.out (toB (signsL.getD j [])) wr (by omega)
      rw [hz] at hP
      rw [← hT.out] at hst
      generalize toB (signsL.getD j []) = t at *
      generalize signsL.getD j [] = g at *
      by_cases hle : g.length ≤ b.size
      · rw [if_pos hle] at hst
        have HST := Lib.hid hst
        have q1 : ¬ (b.size : Int) < t.size := by omega
        clear hst hT hz hz2 hz3 hP hle
        go_wp2
        go_roundw
        case rel => exact ⟨j + 1, b, by omega, by go_num, rfl, HST.out.symm, hb3, trivial⟩
        case measure => simp [intOf]; omega
      · rw [if_neg hle] at hst
        have q1 : (b.size : Int) < t.size := by omega
        cases hb : g.isPrefixOf (s.data.toList.drop k)
        · rw [hb] at hst hP
          have HST := Lib.hid hst
          have HP := Lib.hid hP
          clear hst hT hz hz2 hz3 hP hle hb
          go_wp2_with fail
          refine HP.out.mono ?_
          rintro e w2 ⟨rfl, rfl⟩
          go_wp2
          go_roundw
          case rel => exact ⟨j + 1, b, by omega, by go_num, rfl, HST.out.symm, hb3, trivial⟩
          case measure => simp [intOf]; omega
        · rw [hb] at hst hP
          have hst2 : t.size = signG (signsL.take (j + 1)) (s.data.toList.drop k) := by rw [hst, hz2]; rfl
          have ht3 : t.size ≤ 3 := by omega
          have HST := Lib.hid hst2
          have HP := Lib.hid hP
          clear hst hst2 hT hz hz2 hz3 hP hle hb
          go_wp2_with fail
          refine HP.out.mono ?_
          rintro e w2 ⟨rfl, rfl⟩
          go_wp2
          go_roundw
          case rel => exact ⟨j + 1, t, by omega, by go_num, rfl, HST.out, ht3, trivial⟩
          case measure => simp [intOf]; omega
    · obtain rfl : j = 47 := by omega
      have hst := hT.out
      rw [List.take_of_length_le (by rw [signs_len]; exact Nat.le_refl _)] at hst
      have HST := Lib.hid hst
      clear hst hT
      go_wp2
      go_ret
      exact ⟨⟨b, rfl, HST.out⟩, HB1.out⟩

end Go.Proofs.YtjdpkhjoecfhlaaGreatDoor
