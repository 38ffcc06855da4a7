/- Lex, in the document: a word at any place. -/
import Derived.Test.YtjdpkhjoecfhlaaGreatDoorLexU
namespace Go.Proofs.YtjdpkhjoecfhlaaGreatDoor
open Go.RowKit Go.Maps Go.Shelf

/-- the kind of a word at a place, and the place behind it -/
def refWordAt (s : ByteArray) (k : Nat) : Value := .tuple #[.int .i64 (if keysL.contains ((s.data.toList.drop k).take (wordT (s.data.toList.drop k))) = true then 2 else 1 : Nat), .int .i64 (k + wordT (s.data.toList.drop k) : Nat)]

set_option maxHeartbeats 4000000 in
set_option maxRecDepth 100000 in
theorem refWordAt_any (s : ByteArray) (k : Nat) (hk : k ≤ s.size) (w : World) (hs : s.size ≤ 140737488355328) :
    Calls Tryz.prog 154 #[.string s, .int .i64 k] w fun e w' => e = .returned (refWordAt s k) ∧ Below w.heap.size w w' := by
  go_enter Tryz.func154, Tryz.ntmps154
  go_wp2
  go_loopw [6] (fun vn wr => ∃ i : Nat, k ≤ i ∧ i ≤ s.size ∧ vn = .int .i64 i ∧ Hid (i + wordT (s.data.toList.drop i) = k + wordT (s.data.toList.drop k)) ∧ wr = w) (fun vn _ => s.size - (intOf vn).toNat)
  case atStart => exact ⟨k, Nat.le_refl _, hk, rfl, rfl, rfl⟩
  case round =>
    obtain ⟨i, hi1, hi2, rfl, hT, rfl⟩ := hrel
    by_cases hlk : i < s.size
    · have M1 := fun W => letter_any (s[i]'hlk) W
      have M2 := fun W => digit_any (s[i]'hlk) W
      have hst := hT.out
      rw [drop_at s i hlk, wordT] at hst
      cases q1 : isLet (s[i]'hlk)
      · simp only [q1] at M1 hst
        cases q2 : isDig (s[i]'hlk)
        · simp only [q2] at M2 hst
          have HM1 := Lib.hid M1
          have HM2 := Lib.hid M2
          have hst2 : i = k + wordT (s.data.toList.drop k) := by simpa using hst
          have HS := Lib.hid hst2
          clear M1 M2 hst hst2 q1 q2 hT
          go_wp2_with fail
          refine (HM1.out _).mono ?_
          rintro e w2 ⟨rfl, rfl⟩
          go_wp2_with fail
          refine (HM2.out _).mono ?_
          rintro e w3 ⟨rfl, rfl⟩
          go_wp2_with fail
          have hx : (s.extract k i).data.toList = (s.data.toList.drop k).take (i - k) := by rw [ByteArray.data_extract, Array.toList_extract]
          have hHK := fun W => hasKeys_any (s.extract k i) W
          rw [hx] at hHK
          have HHK := Lib.hid hHK
          have hV : refWordAt s k = .tuple #[.int .i64 (if keysL.contains ((s.data.toList.drop k).take (i - k)) = true then 2 else 1 : Nat), .int .i64 i] := by
            unfold refWordAt
            rw [show wordT (s.data.toList.drop k) = i - k by have := HS.out; omega, show k + (i - k) = i by omega]
          have HV := Lib.hid hV
          have c1 : (k : Int) ≤ ((i : Nat) : Int) := by omega
          have c2 : ((i : Nat) : Int) ≤ s.size := by omega
          have en1 : ∀ args w, (callFunc 207 args).run Tryz.prog w = .ok (.enter 207 args) w := enters_of Tryz.func207 (by kernel_rfl) rfl
          have en2 : ∀ args w, (callFunc 29 args).run Tryz.prog w = .ok (.enter 29 args) w := enters_of Tryz.func29 (by kernel_rfl) rfl
          clear hx hHK hV HS
          cases hb : keysL.contains ((s.data.toList.drop k).take (i - k))
          · rw [hb] at HV HHK
            go_region_held3 (fun w' => Below w3.heap.size w3 w')
              (first
                | exact (Below.refl _ _).drew
                | assumption
                | (refine Below.alloc (by assumption) (Below.size (by assumption)) _)
                | go_keep)
              (first
                | (go_at_call 207; refine (refKeys_any _).mono ?_; rintro e w' ⟨rfl, rfl⟩)
                | (go_at_call 29; refine (HHK.out _).mono ?_; rintro e w' ⟨⟨r, rfl, hr⟩, rfl⟩; have hr2 : ¬ 0 ≤ r := fun g => absurd (hr.1 g) (by simp); clear hr))
            go_wp2
            go_ret2
            exact ⟨by rw [HV.out]; rfl, ((Below.refl _ _).alloc (Nat.le_refl _) _).drew⟩
          · rw [hb] at HV HHK
            go_region_held3 (fun w' => Below w3.heap.size w3 w')
              (first
                | exact (Below.refl _ _).drew
                | assumption
                | (refine Below.alloc (by assumption) (Below.size (by assumption)) _)
                | go_keep)
              (first
                | (go_at_call 207; refine (refKeys_any _).mono ?_; rintro e w' ⟨rfl, rfl⟩)
                | (go_at_call 29; refine (HHK.out _).mono ?_; rintro e w' ⟨⟨r, rfl, hr⟩, rfl⟩; have hr2 : 0 ≤ r := hr.2 (by trivial); clear hr))
            go_wp2
            go_ret2
            exact ⟨by rw [HV.out]; rfl, ((Below.refl _ _).alloc (Nat.le_refl _) _).drew⟩
        · simp only [q2] at M2 hst
          have HM1 := Lib.hid M1
          have HM2 := Lib.hid M2
          have HS := Lib.hid hst
          clear M1 M2 hst q1 q2 hT
          go_wp2_with fail
          refine (HM1.out _).mono ?_
          rintro e w2 ⟨rfl, rfl⟩
          go_wp2_with fail
          refine (HM2.out _).mono ?_
          rintro e w3 ⟨rfl, rfl⟩
          go_wp2
          go_roundw
          case rel => exact ⟨i + 1, by omega, by omega, by go_num, by unfold Hid; rw [← HS.out]; simp; omega, trivial⟩
          case measure => simp [intOf]; omega
      · simp only [q1] at M1 hst
        have HM1 := Lib.hid M1
        have HS := Lib.hid hst
        clear M1 M2 hst q1 hT
        go_wp2_with fail
        refine (HM1.out _).mono ?_
        rintro e w2 ⟨rfl, rfl⟩
        go_wp2
        go_roundw
        case rel => exact ⟨i + 1, by omega, by omega, by go_num, by unfold Hid; rw [← HS.out]; simp; omega, trivial⟩
        case measure => simp [intOf]; omega
    · have hst := hT.out
      rw [List.drop_eq_nil_of_le (by simp; omega)] at hst
      have HS := Lib.hid (show i = k + wordT (s.data.toList.drop k) by simpa [wordT] using hst)
      have hnl : ¬ (i : Int) < s.size := by omega
      clear hst hT
      go_wp2_with fail
      have hx : (s.extract k i).data.toList = (s.data.toList.drop k).take (i - k) := by rw [ByteArray.data_extract, Array.toList_extract]
      have hHK := fun W => hasKeys_any (s.extract k i) W
      rw [hx] at hHK
      have HHK := Lib.hid hHK
      have hV : refWordAt s k = .tuple #[.int .i64 (if keysL.contains ((s.data.toList.drop k).take (i - k)) = true then 2 else 1 : Nat), .int .i64 i] := by
        unfold refWordAt
        rw [show wordT (s.data.toList.drop k) = i - k by have := HS.out; omega, show k + (i - k) = i by omega]
      have HV := Lib.hid hV
      have c1 : (k : Int) ≤ ((i : Nat) : Int) := by omega
      have c2 : ((i : Nat) : Int) ≤ s.size := by omega
      have en1 : ∀ args w, (callFunc 207 args).run Tryz.prog w = .ok (.enter 207 args) w := enters_of Tryz.func207 (by kernel_rfl) rfl
      have en2 : ∀ args w, (callFunc 29 args).run Tryz.prog w = .ok (.enter 29 args) w := enters_of Tryz.func29 (by kernel_rfl) rfl
      clear hx hHK hV HS
      cases hb : keysL.contains ((s.data.toList.drop k).take (i - k))
      · rw [hb] at HV HHK
        go_region_held3 (fun w' => Below wr.heap.size wr w')
          (first
            | exact (Below.refl _ _).drew
            | assumption
            | (refine Below.alloc (by assumption) (Below.size (by assumption)) _)
            | go_keep)
          (first
            | (go_at_call 207; refine (refKeys_any _).mono ?_; rintro e w' ⟨rfl, rfl⟩)
            | (go_at_call 29; refine (HHK.out _).mono ?_; rintro e w' ⟨⟨r, rfl, hr⟩, rfl⟩; have hr2 : ¬ 0 ≤ r := fun g => absurd (hr.1 g) (by simp); clear hr))
        go_wp2
        go_ret2
        exact ⟨by rw [HV.out]; rfl, ((Below.refl _ _).alloc (Nat.le_refl _) _).drew⟩
      · rw [hb] at HV HHK
        go_region_held3 (fun w' => Below wr.heap.size wr w')
          (first
            | exact (Below.refl _ _).drew
            | assumption
            | (refine Below.alloc (by assumption) (Below.size (by assumption)) _)
            | go_keep)
          (first
            | (go_at_call 207; refine (refKeys_any _).mono ?_; rintro e w' ⟨rfl, rfl⟩)
            | (go_at_call 29; refine (HHK.out _).mono ?_; rintro e w' ⟨⟨r, rfl, hr⟩, rfl⟩; have hr2 : 0 ≤ r := hr.2 (by trivial); clear hr))
        go_wp2
        go_ret2
        exact ⟨by rw [HV.out]; rfl, ((Below.refl _ _).alloc (Nat.le_refl _) _).drew⟩

end Go.Proofs.YtjdpkhjoecfhlaaGreatDoor
