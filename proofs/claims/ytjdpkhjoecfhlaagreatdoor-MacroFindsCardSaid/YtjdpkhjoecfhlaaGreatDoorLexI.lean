/- Lex: names, keys and signs, in the program and in the document. -/
import Derived.Test.YtjdpkhjoecfhlaaGreatDoorLexG
import Derived.Test.YtjdpkhjoecfhlaaGreatDoorEd
namespace Go.Proofs.YtjdpkhjoecfhlaaGreatDoor
open Go.RowKit Go.Maps Go.Shelf

set_option maxHeartbeats 4000000 in
set_option maxRecDepth 100000 in
theorem letter_any (c : UInt8) (w : World) : Calls Tryz.prog 153 #[.int .u8 c.toNat] w fun e w' => e = .returned (.bool (isLet c)) ∧ w' = w := by
  by_cases a1 : (97 : Int) ≤ c.toNat <;> by_cases a2 : (c.toNat : Int) ≤ 122 <;> by_cases b1 : (65 : Int) ≤ c.toNat <;> by_cases b2 : (c.toNat : Int) ≤ 90 <;> by_cases e1 : (c.toNat : Int) = 95
  all_goals try omega
  all_goals
    first
    | (have e : isLet c = true := by (unfold isLet; simp; omega)
       have HE := Lib.hid e
       clear e
       go_enter Tryz.func153, Tryz.ntmps153
       go_wp2
       go_ret
       exact ⟨retB (by first | exact HE.out.symm | (rw [HE.out]; simp; omega)), rfl⟩)
    | (have e : isLet c = false := by (unfold isLet; simp; omega)
       have HE := Lib.hid e
       clear e
       go_enter Tryz.func153, Tryz.ntmps153
       go_wp2
       go_ret
       exact ⟨retB (by first | exact HE.out.symm | (rw [HE.out]; simp; omega)), rfl⟩)

set_option maxHeartbeats 4000000 in
set_option maxRecDepth 100000 in
theorem digit_any (c : UInt8) (w : World) : Calls Tryz.prog 155 #[.int .u8 c.toNat] w fun e w' => e = .returned (.bool (isDig c)) ∧ w' = w := by
  by_cases a1 : (48 : Int) ≤ c.toNat <;> by_cases a2 : (c.toNat : Int) ≤ 57
  all_goals try omega
  all_goals
    first
    | (have e : isDig c = true := by (unfold isDig; simp; omega)
       have HE := Lib.hid e
       clear e
       go_enter Tryz.func155, Tryz.ntmps155
       go_wp2
       go_ret
       exact ⟨retB HE.out.symm, rfl⟩)
    | (have e : isDig c = false := by (unfold isDig; simp; omega)
       have HE := Lib.hid e
       clear e
       go_enter Tryz.func155, Tryz.ntmps155
       go_wp2
       go_ret
       exact ⟨retB HE.out.symm, rfl⟩)

def keysV : Array Value := (keysB.map Value.string).toArray
def signsV : Array Value := (signsB.map Value.string).toArray

set_option maxHeartbeats 4000000 in
set_option maxRecDepth 100000 in
theorem refKeys_any (w : World) : Calls Tryz.prog 207 #[] w fun e w' => e = .returned (.slice (some ⟨w.heap.size, 0, none⟩) 28 28) ∧ w' = w.alloc (.cells keysV 9) := by
  go_enter Tryz.func207, Tryz.ntmps207
  go_wp2
  go_ret
  exact ⟨rfl, rfl⟩
set_option maxHeartbeats 4000000 in
set_option maxRecDepth 100000 in
theorem refSigns_any (w : World) : Calls Tryz.prog 208 #[] w fun e w' => e = .returned (.slice (some ⟨w.heap.size, 0, none⟩) 47 47) ∧ w' = w.alloc (.cells signsV 9) := by
  go_enter Tryz.func208, Tryz.ntmps208
  go_wp2
  go_ret
  exact ⟨rfl, rfl⟩

theorem strB {x y : ByteArray} : (x.toList == y.toList) = decide (x = y) := by
  by_cases h : x = y
  · subst h; simp
  · rw [decide_eq_false h]
    cases e : x.toList == y.toList
    · rfl
    · have e2 := eq_of_beq e
      rw [ByteArray.toList_eq, ByteArray.toList_eq] at e2
      exact absurd (by cases x; cases y; simp_all) h

set_option maxHeartbeats 4000000 in
set_option maxRecDepth 100000 in
theorem has_any (A : Option Addr) (c : Nat) (l : List ByteArray) (s : ByteArray) (w : World) (hl : l.length ≤ 1000000) (h : Rd w w.heap.size A (l.map Value.string)) :
    Calls Tryz.prog 29 #[.slice A l.length c, .string s] w fun e w' => (∃ r : Int, e = .returned (.int .i64 r) ∧ (0 ≤ r ↔ s ∈ l)) ∧ w' = w := by
  have H1 := Lib.hid h
  clear h
  go_enter Tryz.func29, Tryz.ntmps29
  go_wp2
  go_loopw [5] (fun vi wr => ∃ k : Nat, k ≤ l.length ∧ vi = .int .i64 k ∧ Hid (s ∉ l.take k) ∧ wr = w) (fun vi _ => l.length - (intOf vi).toNat)
  case atStart => exact ⟨0, Nat.zero_le _, rfl, by simp [Hid], rfl⟩
  case round =>
    obtain ⟨k, hk, rfl, hT, rfl⟩ := hrel
    by_cases hlt : k < l.length
    · obtain ⟨b, off, rfl, hB, hc⟩ := H1.out (by rw [List.length_map]; omega)
      have cA := hc k (.string l[k]) (by simp [hlt])
      have hmem : l[k] ∈ l := List.getElem_mem _
      have htk : l.take (k + 1) = l.take k ++ [l[k]] := List.take_succ_eq_append_getElem hlt
      generalize l[k] = x at *
      have HM := Lib.hid hmem
      have HTK := Lib.hid htk
      clear hc hmem htk
      by_cases q : x = s
      · subst q
        go_wp2
        go_ret
        exact ⟨⟨_, rfl, ⟨fun _ => HM.out, fun _ => by omega⟩⟩, rfl⟩
      · have q1 : (x.toList == s.toList) = false := by rw [strB, decide_eq_false q]
        have HQ := Lib.hid q
        clear q
        go_wp2
        go_roundw
        case rel => exact ⟨k + 1, by omega, by go_num, by unfold Hid; rw [HTK.out]; simp only [List.mem_append, List.mem_singleton, not_or]; exact ⟨hT.out, fun e => HQ.out e.symm⟩, trivial⟩
        case measure => simp [intOf]; omega
    · obtain rfl : k = l.length := by omega
      have hn := hT.out
      rw [List.take_length] at hn
      have HN := Lib.hid hn
      clear hn hT
      go_wp2
      go_ret
      exact ⟨⟨_, rfl, ⟨fun g => by omega, fun g => absurd g HN.out⟩⟩, rfl⟩

theorem toB_inj {a b : List UInt8} (h : toB a = toB b) : a = b := by
  have := congrArg (fun x => x.data.toList) h
  simpa [toB_list] using this
theorem mem_keysB (s : ByteArray) : s ∈ keysB ↔ keysL.contains s.data.toList = true := by
  unfold keysB
  rw [List.mem_map, List.contains_iff_mem]
  constructor
  · rintro ⟨a, ha, rfl⟩
    rw [toB_list]; exact ha
  · intro h
    exact ⟨_, h, toB_self s⟩

def isNameF (s : ByteArray) : Bool := !(keysL.contains s.data.toList) && (decide (0 < s.size) && decide (wordN s.data.toList = s.size))

/-- the kind of a word, in the document -/
def refWordV (s : ByteArray) (n : Nat) : Value := .tuple #[.int .i64 (if keysL.contains (s.data.toList.take n) = true then 2 else 1 : Nat), .int .i64 n]

theorem keysRd (w : World) : Rd (w.alloc (.cells keysV 9)) (w.alloc (.cells keysV 9)).heap.size (some ⟨w.heap.size, 0, none⟩) (keysB.map Value.string) := fun _ =>
  ⟨w.heap.size, 0, rfl, by simp, fun j u hu => by
    rw [Nat.zero_add, Blk.cell (Blk.new w 9 keysV)]
    unfold keysV
    simpa using hu⟩

theorem hasKeys_any (x : ByteArray) (w : World) : Calls Tryz.prog 29 #[.slice (some ⟨w.heap.size, 0, none⟩) 28 28, .string x] ((w.alloc (.cells keysV 9)).drew) fun e w' =>
    (∃ r : Int, e = .returned (.int .i64 r) ∧ (0 ≤ r ↔ keysL.contains x.data.toList = true)) ∧ w' = (w.alloc (.cells keysV 9)).drew := by
  have h := has_any (some ⟨w.heap.size, 0, none⟩) 28 keysB x ((w.alloc (.cells keysV 9)).drew) (by rw [keysB_len]; decide) (keysRd w)
  rw [keysB_len, mem_keysB] at h
  exact h

set_option maxHeartbeats 4000000 in
set_option maxRecDepth 100000 in
theorem refWord_any (s : ByteArray) (w : World) (hs : s.size ≤ 140737488355328) :
    Calls Tryz.prog 154 #[.string s, .int .i64 0] w fun e w' => e = .returned (refWordV s (wordT s.data.toList)) ∧ Below w.heap.size w w' := by
  go_enter Tryz.func154, Tryz.ntmps154
  go_wp2
  go_loopw [6] (fun vn wr => ∃ k : Nat, k ≤ s.size ∧ vn = .int .i64 k ∧ Hid (k + wordT (s.data.toList.drop k) = wordT s.data.toList) ∧ wr = w) (fun vn _ => s.size - (intOf vn).toNat)
  case atStart => exact ⟨0, by omega, rfl, by simp [Hid], rfl⟩
  case round =>
    obtain ⟨k, hk, rfl, hT, rfl⟩ := hrel
    have hend : wordT s.data.toList = k → True := fun _ => trivial
    clear hend
    by_cases hlk : k < s.size
    · have M1 := fun W => letter_any (s[k]'hlk) W
      have M2 := fun W => digit_any (s[k]'hlk) W
      have hst := hT.out
      rw [drop_at s k hlk, wordT] at hst
      cases q1 : isLet (s[k]'hlk)
      · simp only [q1] at M1 hst
        cases q2 : isDig (s[k]'hlk)
        · simp only [q2] at M2 hst
          have HM1 := Lib.hid M1
          have HM2 := Lib.hid M2
          have hst2 : wordT s.data.toList = k := by simpa using hst.symm
          have HS := Lib.hid hst2
          clear M1 M2 hst hst2 q1 q2 hT
          go_wp2_with fail
          refine (HM1.out _).mono ?_
          rintro e w2 ⟨rfl, rfl⟩
          go_wp2_with fail
          refine (HM2.out _).mono ?_
          rintro e w3 ⟨rfl, rfl⟩
          go_wp2_with fail
          have hx := ext_take s k
          have hHK := fun W => hasKeys_any (s.extract 0 k) W
          rw [hx] at hHK
          have HHK := Lib.hid hHK
          have hV : refWordV s (wordT s.data.toList) = .tuple #[.int .i64 (if keysL.contains (s.data.toList.take k) = true then 2 else 1 : Nat), .int .i64 k] := by unfold refWordV; rw [HS.out]
          have HV := Lib.hid hV
          have c1 : (0 : Int) ≤ ((k : Nat) : Int) := by omega
          have c2 : ((k : Nat) : Int) ≤ s.size := by omega
          have en1 : ∀ args w, (callFunc 207 args).run Tryz.prog w = .ok (.enter 207 args) w := enters_of Tryz.func207 (by kernel_rfl) rfl
          have en2 : ∀ args w, (callFunc 29 args).run Tryz.prog w = .ok (.enter 29 args) w := enters_of Tryz.func29 (by kernel_rfl) rfl
          clear hx hHK hV HS
          cases hb : keysL.contains (s.data.toList.take k)
          · rw [hb] at HV HHK
            go_region_held3 (fun w' => Below w3.heap.size w3 w')
              (first
                | exact (Below.refl _ _).drew
                | assumption
                | (refine Below.alloc (by assumption) (Below.size (by assumption)) _)
                | go_keep)
              (first
                | (go_at_call 207; refine (refKeys_any _).mono ?_; rintro e w' ⟨rfl, rfl⟩)
                | (go_at_call 29; refine (HHK.out _).mono ?_; rintro e w' ⟨⟨r, rfl, hr⟩, rfl⟩; have hr2 : ¬ 0 ≤ r := fun g => absurd (hr.1 g) (by simp); clear hr))
            go_wp2
            go_ret2
            exact ⟨by rw [HV.out]; rfl, ((Below.refl _ _).alloc (Nat.le_refl _) _).drew⟩
          · rw [hb] at HV HHK
            go_region_held3 (fun w' => Below w3.heap.size w3 w')
              (first
                | exact (Below.refl _ _).drew
                | assumption
                | (refine Below.alloc (by assumption) (Below.size (by assumption)) _)
                | go_keep)
              (first
                | (go_at_call 207; refine (refKeys_any _).mono ?_; rintro e w' ⟨rfl, rfl⟩)
                | (go_at_call 29; refine (HHK.out _).mono ?_; rintro e w' ⟨⟨r, rfl, hr⟩, rfl⟩; have hr2 : 0 ≤ r := hr.2 (by trivial); clear hr))
            go_wp2
            go_ret2
            exact ⟨by rw [HV.out]; rfl, ((Below.refl _ _).alloc (Nat.le_refl _) _).drew⟩
        · simp only [q2] at M2 hst
          have HM1 := Lib.hid M1
          have HM2 := Lib.hid M2
          have HS := Lib.hid hst
          clear M1 M2 hst q1 q2 hT
          go_wp2_with fail
          refine (HM1.out _).mono ?_
          rintro e w2 ⟨rfl, rfl⟩
          go_wp2_with fail
          refine (HM2.out _).mono ?_
          rintro e w3 ⟨rfl, rfl⟩
          go_wp2
          go_roundw
          case rel => exact ⟨k + 1, by omega, by go_num, by unfold Hid; rw [← HS.out]; simp; omega, trivial⟩
          case measure => simp [intOf]; omega
      · simp only [q1] at M1 hst
        have HM1 := Lib.hid M1
        have HS := Lib.hid hst
        clear M1 M2 hst q1 hT
        go_wp2_with fail
        refine (HM1.out _).mono ?_
        rintro e w2 ⟨rfl, rfl⟩
        go_wp2
        go_roundw
        case rel => exact ⟨k + 1, by omega, by go_num, by unfold Hid; rw [← HS.out]; simp; omega, trivial⟩
        case measure => simp [intOf]; omega
    · obtain rfl : k = s.size := by omega
      have hst := hT.out
      rw [drop_all] at hst
      have hst2 : wordT s.data.toList = s.size := by simpa [wordT] using hst.symm
      have HS := Lib.hid hst2
      clear hst hst2 hT
      go_wp2_with fail
      have hx : s.data.toList.take s.size = s.data.toList := List.take_of_length_le (by simp)
      have hHK := fun W => hasKeys_any s W
      have HHK := Lib.hid hHK
      have hV : refWordV s (wordT s.data.toList) = .tuple #[.int .i64 (if keysL.contains (s.data.toList.take s.size) = true then 2 else 1 : Nat), .int .i64 s.size] := by unfold refWordV; rw [HS.out]
      rw [hx] at hV
      have HV := Lib.hid hV
      have c1 : (0 : Int) ≤ ((s.size : Nat) : Int) := by omega
      have c2 : ((s.size : Nat) : Int) ≤ s.size := by omega
      have en1 : ∀ args w, (callFunc 207 args).run Tryz.prog w = .ok (.enter 207 args) w := enters_of Tryz.func207 (by kernel_rfl) rfl
      have en2 : ∀ args w, (callFunc 29 args).run Tryz.prog w = .ok (.enter 29 args) w := enters_of Tryz.func29 (by kernel_rfl) rfl
      clear hx hHK hV HS
      cases hb : keysL.contains s.data.toList
      · rw [hb] at HV HHK
        go_region_held3 (fun w' => Below wr.heap.size wr w')
          (first
            | exact (Below.refl _ _).drew
            | assumption
            | (refine Below.alloc (by assumption) (Below.size (by assumption)) _)
            | go_keep)
          (first
            | (go_at_call 207; refine (refKeys_any _).mono ?_; rintro e w' ⟨rfl, rfl⟩)
            | (go_at_call 29; refine (HHK.out _).mono ?_; rintro e w' ⟨⟨r, rfl, hr⟩, rfl⟩; have hr2 : ¬ 0 ≤ r := fun g => absurd (hr.1 g) (by simp); clear hr))
        go_wp2
        go_ret2
        exact ⟨by rw [HV.out]; rfl, ((Below.refl _ _).alloc (Nat.le_refl _) _).drew⟩
      · rw [hb] at HV HHK
        go_region_held3 (fun w' => Below wr.heap.size wr w')
          (first
            | exact (Below.refl _ _).drew
            | assumption
            | (refine Below.alloc (by assumption) (Below.size (by assumption)) _)
            | go_keep)
          (first
            | (go_at_call 207; refine (refKeys_any _).mono ?_; rintro e w' ⟨rfl, rfl⟩)
            | (go_at_call 29; refine (HHK.out _).mono ?_; rintro e w' ⟨⟨r, rfl, hr⟩, rfl⟩; have hr2 : 0 ≤ r := hr.2 (by trivial); clear hr))
        go_wp2
        go_ret2
        exact ⟨by rw [HV.out]; rfl, ((Below.refl _ _).alloc (Nat.le_refl _) _).drew⟩

end Go.Proofs.YtjdpkhjoecfhlaaGreatDoor
