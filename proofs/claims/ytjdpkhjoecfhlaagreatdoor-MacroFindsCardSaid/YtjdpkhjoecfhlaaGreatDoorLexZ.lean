/- Lex, in the document: preprocessor lines. -/
import Derived.Test.YtjdpkhjoecfhlaaGreatDoorLexY
namespace Go.Proofs.YtjdpkhjoecfhlaaGreatDoor
open Go.RowKit Go.Maps Go.Shelf

theorem lineGo_more (l : List UInt8) : ∀ f e, l.length < f + e → e ≤ l.length → lineGo f l e = lineGo (f + 1) l e
  | 0, e, h, he => by omega
  | f + 1, e, h, he => by
    have hu := upTo_le (l.drop e)
    rw [List.length_drop] at hu
    rw [lineGo, lineGo]
    by_cases c1 : e + upTo (l.drop e) = l.length
    · rw [if_pos c1, if_pos c1]
    · rw [if_neg c1, if_neg c1]
      by_cases c2 : (trim13 (l.take (e + upTo (l.drop e)))).getLast? = some 92
      · rw [if_pos c2, if_pos c2]
        exact lineGo_more l f _ (by omega) (by omega)
      · rw [if_neg c2, if_neg c2]
theorem lineGo_enough (l : List UInt8) (e : Nat) (he : e ≤ l.length) : ∀ d, lineGo (l.length + 1 - e + d) l e = lineGo (l.length + 1 - e) l e
  | 0 => rfl
  | d + 1 => by rw [← Nat.add_assoc, ← lineGo_more l _ _ (by omega) he]; exact lineGo_enough l e he d
/-- where a preprocessor line ends, of which the bytes up to a place are known to be its own -/
def lineF (l : List UInt8) (e : Nat) : Nat := lineGo (l.length + 1 - e) l e
theorem lineF_step (l : List UInt8) (e : Nat) (he : e ≤ l.length) : lineF l e = if e + upTo (l.drop e) = l.length then l.length else
    if (trim13 (l.take (e + upTo (l.drop e)))).getLast? = some 92 then lineF l (e + upTo (l.drop e) + 1) else (trim13 (l.take (e + upTo (l.drop e)))).length := by
  have hu := upTo_le (l.drop e)
  rw [List.length_drop] at hu
  rw [lineF, show l.length + 1 - e = (l.length - e) + 1 by omega, lineGo]
  by_cases c1 : e + upTo (l.drop e) = l.length
  · rw [if_pos c1, if_pos c1]
  · rw [if_neg c1, if_neg c1]
    rw [lineF]
    have := lineGo_enough l (e + upTo (l.drop e) + 1) (by omega) (l.length - e - (l.length + 1 - (e + upTo (l.drop e) + 1)))
    rw [show l.length + 1 - (e + upTo (l.drop e) + 1) + (l.length - e - (l.length + 1 - (e + upTo (l.drop e) + 1))) = l.length - e by omega] at this
    rw [this]
theorem lineF_zero (l : List UInt8) : lineF l 0 = lineN l := rfl
theorem lineF_end (l : List UInt8) : lineF l l.length = l.length := by
  rw [lineF_step l _ (Nat.le_refl _), List.drop_eq_nil_of_le (Nat.le_refl _)]; simp [upTo]
theorem lineF_go (l : List UInt8) (e : Nat) (he : e < l.length) (h : ¬ l[e].toNat = 10) : lineF l e = lineF l (e + 1) := by
  have hd : l.drop e = l[e] :: l.drop (e + 1) := List.drop_eq_getElem_cons he
  rw [lineF_step l e (by omega), lineF_step l (e + 1) (by omega)]
  have hu : e + upTo (l.drop e) = e + 1 + upTo (l.drop (e + 1)) := by rw [hd, upTo, if_neg h]; omega
  rw [hu]
theorem lineF_lf (l : List UInt8) (e : Nat) (he : e < l.length) (h : l[e].toNat = 10) : lineF l e = if (trim13 (l.take e)).getLast? = some 92 then lineF l (e + 1) else (trim13 (l.take e)).length := by
  have hd : l.drop e = l[e] :: l.drop (e + 1) := List.drop_eq_getElem_cons he
  have hu : upTo (l.drop e) = 0 := by rw [hd, upTo, if_pos h]
  rw [lineF_step l e (by omega), hu, Nat.add_zero, if_neg (by omega)]
/-- what is asked at a line feed -/
theorem trim_at (l : List UInt8) (e : Nat) (he : e < l.length) (h1 : 1 ≤ e) (h0 : ¬ l[0]'(by omega) = 13) :
    (l[e - 1]'(by omega) = 92 ∧ (trim13 (l.take e)).getLast? = some 92) ∨
    (∃ h2 : 2 ≤ e, l[e - 1]'(by omega) = 13 ∧ l[e - 2]'(by omega) = 92 ∧ (trim13 (l.take e)).getLast? = some 92) ∨
    (∃ h2 : 2 ≤ e, l[e - 1]'(by omega) = 13 ∧ ¬ l[e - 2]'(by omega) = 92 ∧ ¬ (trim13 (l.take e)).getLast? = some 92 ∧ (trim13 (l.take e)).length = e - 1) ∨
    (¬ l[e - 1]'(by omega) = 92 ∧ ¬ l[e - 1]'(by omega) = 13 ∧ ¬ (trim13 (l.take e)).getLast? = some 92 ∧ (trim13 (l.take e)).length = e) := by
  have hlast : (l.take e).getLast? = some (l[e - 1]'(by omega)) := by
    rw [List.getLast?_eq_getElem?, List.length_take, Nat.min_eq_left (by omega)]
    rw [List.getElem?_take_of_lt (by omega)]
    simp
  unfold trim13
  rw [hlast]
  by_cases c13 : l[e - 1]'(by omega) = 13
  · have h2 : 2 ≤ e := by
      by_cases h2 : 2 ≤ e
      · exact h2
      · exfalso
        have : e = 1 := by omega
        subst this
        exact h0 c13
    have hd : (l.take e).dropLast = l.take (e - 1) := by rw [List.dropLast_take (by omega)]
    have hl2 : (l.take (e - 1)).getLast? = some (l[e - 2]'(by omega)) := by
      rw [List.getLast?_eq_getElem?, List.length_take, Nat.min_eq_left (by omega)]
      rw [List.getElem?_take_of_lt (by omega), List.getElem?_eq_getElem (by omega)]
      rfl
    rw [if_pos (by rw [c13]), hd, hl2]
    by_cases c92 : l[e - 2]'(by omega) = 92
    · exact .inr (.inl ⟨h2, c13, c92, by rw [c92]⟩)
    · exact .inr (.inr (.inl ⟨h2, c13, c92, by simpa using c92, by rw [List.length_take]; omega⟩))
  · rw [if_neg (by simpa using c13), hlast]
    by_cases c92 : l[e - 1]'(by omega) = 92
    · exact .inl ⟨c92, by rw [c92]⟩
    · exact .inr (.inr (.inr ⟨c92, c13, by simpa using c92, by rw [List.length_take]; omega⟩))

theorem drop_getL (s : ByteArray) (k j : Nat) (h : j < (s.data.toList.drop k).length) (h2 : k + j < s.size) : (s.data.toList.drop k)[j] = s[k + j] := by
  rw [List.getElem_drop]; rfl

set_option maxHeartbeats 4000000 in
set_option maxRecDepth 100000 in
theorem refLine_any (s : ByteArray) (k : Nat) (hk : k < s.size) (h35 : s[k].toNat = 35) (w : World) (hs : s.size ≤ 140737488355328) :
    Calls Tryz.prog 152 #[.string s, .int .i64 k] w fun e w' => e = .returned (.int .i64 (k + lineN (s.data.toList.drop k) : Nat)) ∧ w' = w := by
  have hsI : (s.size : Int) ≤ 140737488355328 := by omega
  have H35 := Lib.hid h35
  clear hs h35
  go_enter Tryz.func152, Tryz.ntmps152
  go_wp2_with fail
  go_loopw [5] (fun vi wr => ∃ i : Nat, k ≤ i ∧ i ≤ s.size ∧ vi = .int .i64 i ∧ Hid (lineF (s.data.toList.drop k) (i - k) = lineN (s.data.toList.drop k)) ∧ wr = w) (fun vi _ => s.size - (intOf vi).toNat)
  case atStart => exact ⟨k, Nat.le_refl _, by omega, rfl, by rw [Nat.sub_self]; exact lineF_zero _, rfl⟩
  case round =>
    obtain ⟨i, hi1, hi2, rfl, hT, rfl⟩ := hrel
    have hll : (s.data.toList.drop k).length = s.size - k := by rw [List.length_drop]; simp
    by_cases hlt : i < s.size
    · have hltI : (i : Int) < s.size := by omega
      have hst := hT.out
      have hel : i - k < (s.data.toList.drop k).length := by omega
      have hg : (s.data.toList.drop k)[i - k] = s[i]'hlt := by
        rw [drop_getL s k (i - k) hel (by omega)]
        congr 1; omega
      by_cases c10 : (s[i]'hlt).toNat = 10
      · rw [lineF_lf _ _ hel (by rw [hg]; exact c10)] at hst
        have hik : k + 1 ≤ i := by
          by_cases g : i = k
          · subst g; have := H35.out; omega
          · omega
        have hg1 : (s.data.toList.drop k)[i - k - 1]'(by omega) = s[i - 1]'(by omega) := by
          rw [drop_getL s k (i - k - 1) (by omega) (by omega)]
          congr 1; omega
        have hg0 : ¬ (s.data.toList.drop k)[0]'(by omega) = 13 := by
          rw [drop_getL s k 0 (by omega) (by omega)]
          intro g
          have := H35.out
          simp only [Nat.add_zero] at g
          rw [g] at this
          exact absurd this (by decide)
        have hcase := trim_at (s.data.toList.drop k) (i - k) hel (by omega) hg0
        rw [hg1] at hcase
        have c10I : (((s[i]'hlt).toNat : Nat) : Int) = 10 := by omega
        have hi0 : i - 1 < s.size := by omega
        have hpi : IntKind.i64.wrap ((i : Int) - 1) = ((i - 1 : Nat) : Int) := by
          have h1 : ((i - 1 : Nat) : Int) = (i : Int) - 1 := by omega
          rw [h1]
          exact IntWalk.i64_in _ (by omega)
        rcases hcase with ⟨r1, r2⟩ | ⟨h2, r1, r2, r3⟩ | ⟨h2, r1, r2, r3, r4⟩ | ⟨r1, r2, r3, r4⟩
        · rw [if_pos r2] at hst
          have HST := Lib.hid hst
          have q1 : (((s[i - 1]'hi0).toNat : Nat) : Int) = 92 := by rw [r1]; rfl
          clear hst r1 r2 hg hg1 hg0 hT c10 hel hll
          go_wp2
          go_roundw
          case rel => exact ⟨i + 1, by omega, by omega, by go_num, by unfold Hid; rw [← HST.out, show i + 1 - k = i - k + 1 by omega], trivial⟩
          case measure => simp [intOf]; omega
        · have hg2 : (s.data.toList.drop k)[i - k - 2]'(by omega) = s[i - 2]'(by omega) := by
            rw [drop_getL s k (i - k - 2) (by omega) (by omega)]
            congr 1; omega
          rw [hg2] at r2
          rw [hg1] at r1
          have hi00 : i - 2 < s.size := by omega
          have q13 : (((s[i - 1]'hi0).toNat : Nat) : Int) = 13 := by rw [r1]; rfl
          have hpi2 : IntKind.i64.wrap ((i : Int) - 2) = ((i - 2 : Nat) : Int) := by
            have h1 : ((i - 2 : Nat) : Int) = (i : Int) - 2 := by omega
            rw [h1]
            exact IntWalk.i64_in _ (by omega)
          have q2 : (k : Int) ≤ ((i - 2 : Nat) : Int) := by omega
          rw [if_pos r3] at hst
          have HST := Lib.hid hst
          have q92 : (((s[i - 2]'hi00).toNat : Nat) : Int) = 92 := by rw [r2]; rfl
          clear hst r1 r2 r3 hg2 hg hg1 hg0 hT c10 hel hll
          go_wp2
          go_roundw
          case rel => exact ⟨i + 1, by omega, by omega, by go_num, by unfold Hid; rw [← HST.out, show i + 1 - k = i - k + 1 by omega], trivial⟩
          case measure => simp [intOf]; omega
        · have hg2 : (s.data.toList.drop k)[i - k - 2]'(by omega) = s[i - 2]'(by omega) := by
            rw [drop_getL s k (i - k - 2) (by omega) (by omega)]
            congr 1; omega
          rw [hg2] at r2
          rw [hg1] at r1
          have hi00 : i - 2 < s.size := by omega
          have q13 : (((s[i - 1]'hi0).toNat : Nat) : Int) = 13 := by rw [r1]; rfl
          have hpi2 : IntKind.i64.wrap ((i : Int) - 2) = ((i - 2 : Nat) : Int) := by
            have h1 : ((i - 2 : Nat) : Int) = (i : Int) - 2 := by omega
            rw [h1]
            exact IntWalk.i64_in _ (by omega)
          have q2 : (k : Int) ≤ ((i - 2 : Nat) : Int) := by omega
          rw [if_neg r3, r4] at hst
          have HST := Lib.hid hst
          have q92 : ¬ (((s[i - 2]'hi00).toNat : Nat) : Int) = 92 := fun g => r2 (UInt8.toNat_inj.1 (show (s[i - 2]'hi00).toNat = 92 by omega))
          have q92B : ((((s[i - 2]'hi00).toNat : Nat) : Int) == 92) = false := by simpa using q92
          have q5 : (k : Int) < ((i - 1 : Nat) : Int) := by omega
          clear hst r1 r2 r3 r4 hg2 hg hg1 hg0 hT c10 hel hll
          go_wp2
          go_ret
          exact ⟨retI (by have := HST.out; omega), rfl⟩
        · rw [if_neg r3, r4] at hst
          have HST := Lib.hid hst
          have q92 : ¬ (((s[i - 1]'hi0).toNat : Nat) : Int) = 92 := fun g => r1 (UInt8.toNat_inj.1 (show (s[i - 1]'hi0).toNat = 92 by omega))
          have q13 : ¬ (((s[i - 1]'hi0).toNat : Nat) : Int) = 13 := fun g => r2 (UInt8.toNat_inj.1 (show (s[i - 1]'hi0).toNat = 13 by omega))
          have q92B : ((((s[i - 1]'hi0).toNat : Nat) : Int) == 92) = false := by simpa using q92
          have q13B : ((((s[i - 1]'hi0).toNat : Nat) : Int) == 13) = false := by simpa using q13
          clear hst r1 r2 r3 r4 hg hg1 hg0 hT c10 hel hll
          by_cases h2 : 2 ≤ i - k
          · have hpi2 : IntKind.i64.wrap ((i : Int) - 2) = ((i - 2 : Nat) : Int) := by
              have h1 : ((i - 2 : Nat) : Int) = (i : Int) - 2 := by omega
              rw [h1]
              exact IntWalk.i64_in _ (by omega)
            have q2 : (k : Int) ≤ ((i - 2 : Nat) : Int) := by omega
            have q5 : (k : Int) < ((i - 1 : Nat) : Int) := by omega
            go_wp2
            go_ret
            exact ⟨retI (by have := HST.out; omega), rfl⟩
          · have hpi2 : IntKind.i64.wrap ((i : Int) - 2) = (i : Int) - 2 := IntWalk.i64_in _ (by omega)
            have q2 : ¬ (k : Int) ≤ (i : Int) - 2 := by omega
            have q5 : ¬ (k : Int) < ((i - 1 : Nat) : Int) := by omega
            go_wp2
            go_ret
            exact ⟨retI (by have := HST.out; omega), rfl⟩
      · rw [lineF_go _ _ hel (by rw [hg]; exact c10)] at hst
        have HST := Lib.hid hst
        have c10I : ¬ (((s[i]'hlt).toNat : Nat) : Int) = 10 := by omega
        clear hst hT c10 hg hel hll
        go_wp2
        go_roundw
        case rel => exact ⟨i + 1, by omega, by omega, by go_num, by unfold Hid; rw [← HST.out, show i + 1 - k = i - k + 1 by omega], trivial⟩
        case measure => simp [intOf]; omega
    · obtain rfl : i = s.size := by omega
      have hst := hT.out
      rw [← hll, lineF_end, hll] at hst
      have HST := Lib.hid hst
      have hnl : ¬ (s.size : Int) < s.size := by omega
      clear hst hT hll
      go_wp2
      go_ret
      exact ⟨retI (by have := HST.out; omega), rfl⟩

end Go.Proofs.YtjdpkhjoecfhlaaGreatDoor
