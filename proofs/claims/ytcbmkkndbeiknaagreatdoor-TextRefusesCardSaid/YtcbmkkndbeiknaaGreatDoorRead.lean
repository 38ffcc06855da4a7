/- Reading a difference's head. -/
import Derived.Test.YtcbmkkndbeiknaaGreatDoorCut
import Derived.BigQuiet
import Derived.Deep.QuietTactic
import Derived.Lib.Hide
import Derived.RegionTactic
import Derived.WalkKit
import Derived.WalkLawsBesides
import Derived.WalkSpells
import Derived.Below
import Derived.Laws.ResultCell
namespace Go.Proofs.YtcbmkkndbeiknaaGreatDoor
open Go.RowKit Go.Maps

def digB (c : UInt8) : Bool := decide (48 ≤ c.toNat) && decide (c.toNat ≤ 57)
def decV (l : List UInt8) : Nat := l.foldl (fun n c => 10 * n + (c.toNat - 48)) 0

theorem decV_snoc (l : List UInt8) (c : UInt8) : decV (l ++ [c]) = 10 * decV l + (c.toNat - 48) := by simp [decV, List.foldl_append]
theorem decV_take (l : List UInt8) (k : Nat) (h : k < l.length) : decV (l.take (k + 1)) = 10 * decV (l.take k) + (l[k].toNat - 48) := by
  rw [List.take_succ_eq_append_getElem h, decV_snoc]
theorem decV_lt (l : List UInt8) (h : l.all digB = true) : ∀ k, k ≤ l.length → decV (l.take k) < 10 ^ k
  | 0, _ => by simp [decV]
  | k + 1, hk => by
    have ih := decV_lt l h k (by omega)
    rw [decV_take l k (by omega)]
    have hd := List.all_eq_true.1 h l[k] (List.getElem_mem _)
    simp [digB] at hd
    rw [Nat.pow_succ]; omega

/-- what a number's text comes to -/
def numOk (s : ByteArray) : Bool := decide (0 < s.size) && decide (s.size ≤ 9) && !(s.data.toList.head? == some 48 && decide (1 < s.size)) && s.data.toList.all digB

/-- .. and what reading it answers -/
def numV (s : ByteArray) : Value := .tuple #[.int .i64 (if numOk s = true then decV s.data.toList else 0), .bool (numOk s)]
theorem numV_no {s : ByteArray} (h : numOk s = false) : numV s = .tuple #[.int .i64 0, .bool false] := by unfold numV; rw [h]; rfl
theorem numV_yes {s : ByteArray} (h : numOk s = true) : numV s = .tuple #[.int .i64 (decV s.data.toList), .bool true] := by unfold numV; rw [h]; rfl
theorem ret_eq {v v' : Value} (h : v = v') : Ending.returned v = Ending.returned v' := by rw [h]

set_option maxHeartbeats 1000000 in
set_option maxRecDepth 100000 in
theorem readNumber_any (s : ByteArray) (w : World) (hs : s.size ≤ 8000000) :
    Calls Tryz.prog 125 #[.string s] w fun e w' => e = .returned (numV s) ∧ w' = w := by
  by_cases h0 : s.size = 0
  · have hem : s.toList.isEmpty = true := by
      have hl : s.data.toList.length = s.size := by simp
      rw [ByteArray.toList_eq, List.isEmpty_iff]
      exact List.eq_nil_of_length_eq_zero (by omega)
    have e : numOk s = false := by unfold numOk; rw [decide_eq_false (by omega : ¬ 0 < s.size)]; rfl
    have HE := Lib.hid (numV_no e)
    clear e
    go_enter Tryz.func125, Tryz.ntmps125
    go_wp2
    go_ret2
    exact ⟨ret_eq HE.out.symm, rfl⟩
  · have hem : s.toList.isEmpty = false := by
      have hl : s.data.toList.length = s.size := by simp
      rw [ByteArray.toList_eq, List.isEmpty_eq_false_iff]
      intro e; rw [e] at hl; simp at hl; omega
    by_cases h9 : 9 < s.size
    · have e : numOk s = false := by unfold numOk; rw [decide_eq_false (by omega : ¬ s.size ≤ 9)]; simp
      have HE := Lib.hid (numV_no e)
      have h9' : (9 : Int) < s.size := by omega
      clear e h0
      go_enter Tryz.func125, Tryz.ntmps125
      go_wp2
      go_ret2
      exact ⟨ret_eq HE.out.symm, rfl⟩
    · have h9' : ¬ (9 : Int) < s.size := by omega
      have hlt : 0 < s.size := by omega
      have hl : s.data.toList.length = s.size := by simp
      have h0l : s.data.toList[0]'(by omega) = s[0]'hlt := rfl
      have hhd : s.data.toList.head? = some (s[0]'hlt) := by
        rw [List.head?_eq_getElem?, List.getElem?_eq_getElem (by omega), h0l]
      by_cases hc : ((s[0]'hlt).toNat : Int) = 48 ∧ 1 < s.size
      · obtain ⟨hc1, hc2⟩ := hc
        have hne : (!s.toList == [48]) = true := by
          rw [ByteArray.toList_eq]
          have : s.data.toList ≠ [48] := fun e => by rw [e] at hl; simp at hl; omega
          simp [this]
        have e48 : s[0]'hlt = 48 := UInt8.toNat_inj.1 (by have : (48 : UInt8).toNat = 48 := rfl; omega)
        have e : numOk s = false := by unfold numOk; rw [hhd, e48]; simp [hc2]
        have HE := Lib.hid (numV_no e)
        clear e e48 hhd h0l hl h0 hc2
        go_enter Tryz.func125, Tryz.ntmps125
        go_wp2
        go_ret2
        exact ⟨ret_eq HE.out.symm, rfl⟩
      · have hnok : numOk s = s.data.toList.all digB := by
          unfold numOk
          have : (s.data.toList.head? == some 48 && decide (1 < s.size)) = false := by
            rw [hhd]
            by_cases h1 : 1 < s.size
            · have : ¬ s[0]'hlt = 48 := fun e => hc ⟨by rw [e]; rfl, h1⟩
              simp [this]
            · simp [h1]
          rw [this, decide_eq_true hlt, decide_eq_true (by omega : s.size ≤ 9)]; simp
        have hdec := decV_lt s.data.toList
        have HN := Lib.hid hnok
        have HD := Lib.hid hdec
        have HL := Lib.hid hl
        have key : (((s[0]'hlt).toNat : Int) = 48 ∧ (!s.toList == [48]) = false) ∨ ¬ ((s[0]'hlt).toNat : Int) = 48 := by
          by_cases q : ((s[0]'hlt).toNat : Int) = 48
          · refine .inl ⟨q, ?_⟩
            have e48 : s[0]'hlt = 48 := UInt8.toNat_inj.1 (by have : (48 : UInt8).toNat = 48 := rfl; omega)
            have h1 : s.size = 1 := by
              have : ¬ 1 < s.size := fun h => hc ⟨q, h⟩
              omega
            have : s.data.toList = [48] := by
              apply List.ext_getElem
              · rw [hl, h1]; rfl
              · intro i h2 h3
                simp at h3; subst h3
                rw [h0l, e48]; rfl
            rw [ByteArray.toList_eq, this]; rfl
          · exact .inr q
        have hle : s.size ≤ 9 := by omega
        clear hnok hdec hc hhd h0l h0 hl
        go_enter Tryz.func125, Tryz.ntmps125
        have walk : True := trivial
        rcases key with ⟨k1, k2⟩ | k1
        all_goals
          go_wp2
          go_loopw [2, 4, 23] (fun vn _ vi wr => ∃ k : Nat, k ≤ s.size ∧ vi = .int .i64 k ∧ vn = .int .i64 (decV (s.data.toList.take k)) ∧ Hid ((s.data.toList.take k).all digB = true) ∧ wr = w) (fun _ _ vi _ => s.size - (intOf vi).toNat)
          case atStart => exact ⟨0, Nat.zero_le _, rfl, by simp [decV], by simp [Hid], rfl⟩
          case round =>
            obtain ⟨k, hk, rfl, rfl, hall, rfl⟩ := hrel
            have hbd : decV (s.data.toList.take k) < 10 ^ k := by
              have := decV_lt (s.data.toList.take k) hall.out k (by rw [List.length_take]; have := HL.out; omega)
              rwa [List.take_take, Nat.min_self] at this
            by_cases hkl : k < s.size
            · have hp : 10 ^ k ≤ 10 ^ 8 := Nat.pow_le_pow_right (by omega) (by omega)
              have hll := HL.out
              have hb8 : decV (s.data.toList.take k) < 100000000 := by omega
              have hst := decV_take s.data.toList k (by omega)
              have e1 : s.data.toList[k]'(by omega) = s[k]'hkl := rfl
              have hal : (s.data.toList.take (k + 1)).all digB = ((s.data.toList.take k).all digB && digB (s[k]'hkl)) := by
                rw [List.take_succ_eq_append_getElem (by omega), List.all_append, e1]; simp
              rw [e1] at hst
              have HST := Lib.hid hst
              have HAL := Lib.hid hal
              have hc255 : (s[k]'hkl).toNat < 256 := UInt8.toNat_lt _
              generalize hN : decV (s.data.toList.take k) = n at *
              clear hst hal e1 hp hbd hN hll
              have hno : digB (s[k]'hkl) = false → numV s = .tuple #[.int .i64 0, .bool false] := fun g => numV_no (by
                rw [HN.out]
                have h2 : (s.data.toList.take (k + 1)).all digB = false := by rw [HAL.out, g, Bool.and_false]
                cases h3 : s.data.toList.all digB
                · rfl
                · have := List.all_eq_true.1 h3
                  have h4 : (s.data.toList.take (k + 1)).all digB = true := List.all_eq_true.2 fun x hx => this x (List.mem_of_mem_take hx)
                  rw [h4] at h2; cases h2)
              have HNO := Lib.hid hno
              clear hno
              by_cases q1 : ((s[k]'hkl).toNat : Int) < 48
              · have hd : digB (s[k]'hkl) = false := by unfold digB; rw [decide_eq_false (by omega)]; rfl
                have HV := Lib.hid (HNO.out hd)
                clear hd
                go_wp2
                go_ret2
                exact ⟨ret_eq HV.out.symm, rfl⟩
              · by_cases q2 : 57 < ((s[k]'hkl).toNat : Int)
                · have hd : digB (s[k]'hkl) = false := by unfold digB; rw [decide_eq_false (by omega : ¬ (s[k]'hkl).toNat ≤ 57)]; simp
                  have HV := Lib.hid (HNO.out hd)
                  clear hd
                  go_wp2
                  go_ret2
                  exact ⟨ret_eq HV.out.symm, rfl⟩
                · have hd : digB (s[k]'hkl) = true := by unfold digB; rw [decide_eq_true (by omega), decide_eq_true (by omega)]; rfl
                  have HV := Lib.hid hd
                  clear hd
                  go_wp2
                  go_roundw
                  case rel => exact ⟨k + 1, by omega, by go_num, by rw [HST.out]; go_num, by unfold Hid; rw [HAL.out, hall.out, HV.out]; rfl, trivial⟩
                  case measure => simp [intOf]; omega
            · obtain rfl : k = s.size := by omega
              have hd : numV s = .tuple #[.int .i64 (decV (s.data.toList.take s.size)), .bool true] := by
                have e1 : s.data.toList.take s.size = s.data.toList := List.take_of_length_le (by have := HL.out; omega)
                have e2 := hall.out
                rw [e1] at e2 ⊢
                exact numV_yes (HN.out.trans e2)
              have HV := Lib.hid hd
              clear hd hbd
              go_wp2
              go_ret2
              exact ⟨ret_eq HV.out.symm, rfl⟩

theorem below_dN {B : Nat} {a w : World} (h : Below B a w) (n : Nat) : Below B a (w.drewN n) := ⟨h.os, h.tape, h.output, h.size, h.block⟩

/-- one side of a head -/
def numZ (s : ByteArray) : Int := if numOk s = true then decV s.data.toList else 0
def spnN (s : ByteArray) : Int := numZ (cutR s 44)
def spnF (s : ByteArray) : Int := if 0 < numZ (cutR s 44) then numZ (cutL s 44) - 1 else numZ (cutL s 44)
def spnOk (s : ByteArray) : Bool := cutB s 44 && numOk (cutL s 44) && numOk (cutR s 44) && decide (0 ≤ spnF s)

theorem numV_eq (s : ByteArray) : numV s = .tuple #[.int .i64 (numZ s), .bool (numOk s)] := rfl
theorem numZ_range (s : ByteArray) : 0 ≤ numZ s ∧ numZ s < 1000000000 := by
  unfold numZ
  split
  · rename_i h
    have h1 : s.data.toList.all digB = true := by unfold numOk at h; simp at h; simpa using h.2
    have h2 : s.size ≤ 9 := by unfold numOk at h; simp at h; exact h.1.1.2
    have h3 := decV_lt s.data.toList h1 s.data.toList.length (Nat.le_refl _)
    rw [List.take_length] at h3
    have h4 : s.data.toList.length = s.size := by simp
    have h5 : 10 ^ s.data.toList.length ≤ 10 ^ 9 := Nat.pow_le_pow_right (by omega) (by omega)
    omega
  · omega

set_option maxHeartbeats 4000000 in
set_option maxRecDepth 100000 in
theorem readSpan_any (hI : ∀ (s : ByteArray) (c : UInt8) W, Calls Tryz.prog 145 #[.string s, .string ⟨#[c]⟩] W fun e w' => e = .returned (.int .i64 (Lib.indexByte s.data.toList c)) ∧ w' = W)
    (s : ByteArray) (w : World) (hs : s.size ≤ 8000000) :
    Calls Tryz.prog 95 #[.string s] w fun e w' => e = .returned (.tuple #[.agg #[.int .i64 (spnF s), .int .i64 (spnN s)], .bool (spnOk s)]) ∧ Below w.heap.size w w' := by
  have C := fun W => cut_any s 44 (hI s 44) hs W
  have h1 := cutL_le s 44
  have h2 := cutR_le s 44
  have N1 := fun W => readNumber_any (cutL s 44) W (by omega)
  have N2 := fun W => readNumber_any (cutR s 44) W (by omega)
  simp only [numV_eq] at N1 N2
  have r1 := numZ_range (cutL s 44)
  have r2 := numZ_range (cutR s 44)
  have hn : spnN s = numZ (cutR s 44) := rfl
  have hf : spnF s = if 0 < numZ (cutR s 44) then numZ (cutL s 44) - 1 else numZ (cutL s 44) := rfl
  have ho : spnOk s = (cutB s 44 && numOk (cutL s 44) && numOk (cutR s 44) && decide (0 ≤ spnF s)) := rfl
  rw [hf] at ho
  generalize spnN s = sn at *
  generalize spnF s = sf at *
  generalize spnOk s = so at *
  generalize numOk (cutL s 44) = b1 at *
  generalize numOk (cutR s 44) = b2 at *
  generalize cutB s 44 = b0 at *
  generalize numZ (cutL s 44) = z1 at *
  generalize numZ (cutR s 44) = z2 at *
  generalize cutL s 44 = l at *
  generalize cutR s 44 = r at *
  obtain ⟨r1, r1'⟩ := r1
  obtain ⟨r2, r2'⟩ := r2
  have HC := Lib.hid C
  have HN1 := Lib.hid N1
  have HN2 := Lib.hid N2
  subst hn
  clear C N1 N2 hI
  by_cases q : 0 < sn
  · rw [if_pos q] at hf ho
    subst hf
    by_cases q2 : 0 ≤ z1 - 1
    all_goals
      first | rw [decide_eq_true q2] at ho | rw [decide_eq_false q2] at ho
      subst ho
      cases b0 <;> cases b1 <;> cases b2
      all_goals
        go_enter Tryz.func95, Tryz.ntmps95
        go_wp2_with fail
        refine (HC.out _).mono ?_
        rintro e w1 ⟨rfl, n1, rfl⟩
        go_wp2_with fail
        refine (HN1.out _).mono ?_
        rintro e w2 ⟨rfl, rfl⟩
        go_wp2_with fail
        refine (HN2.out _).mono ?_
        rintro e w3 ⟨rfl, rfl⟩
        go_wp2
        try simp only [Exit.inBlock, Exit.then]
        refine bodyPost_ret ?_ rfl ⟨rfl, ((below_dN ((Below.refl _ _).alloc (Nat.le_refl _) _) _).setCell (p := ⟨w.heap.size, 0, none⟩) (Nat.le_refl _) _).setCell (p := ⟨w.heap.size, 1, none⟩) (Nat.le_refl _) _⟩
        rw [results_cell_tmp rfl]
        go_simp
        try omega
  · rw [if_neg q] at hf ho
    subst hf
    have hsn : sn = 0 := by omega
    subst hsn
    rw [decide_eq_true r1] at ho
    subst ho
    cases b0 <;> cases b1 <;> cases b2
    all_goals
      go_enter Tryz.func95, Tryz.ntmps95
      go_wp2_with fail
      refine (HC.out _).mono ?_
      rintro e w1 ⟨rfl, n1, rfl⟩
      go_wp2_with fail
      refine (HN1.out _).mono ?_
      rintro e w2 ⟨rfl, rfl⟩
      go_wp2_with fail
      refine (HN2.out _).mono ?_
      rintro e w3 ⟨rfl, rfl⟩
      go_wp2
      try simp only [Exit.inBlock, Exit.then]
      refine bodyPost_ret ?_ rfl ⟨rfl, ((below_dN ((Below.refl _ _).alloc (Nat.le_refl _) _) _).setCell (p := ⟨w.heap.size, 0, none⟩) (Nat.le_refl _) _).setCell (p := ⟨w.heap.size, 1, none⟩) (Nat.le_refl _) _⟩
      rw [results_cell_tmp rfl]
      go_simp
      try omega

end Go.Proofs.YtcbmkkndbeiknaaGreatDoor
