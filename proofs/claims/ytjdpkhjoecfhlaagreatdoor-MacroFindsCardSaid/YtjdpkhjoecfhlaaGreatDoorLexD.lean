/- Lex: the scanner in memory; its tellers. -/
import Derived.Test.YtjdpkhjoecfhlaaGreatDoorLexK
namespace Go.Proofs.YtjdpkhjoecfhlaaGreatDoor
open Go.RowKit Go.Maps Go.Shelf

/-- the scanner of a text s at place i, in block p -/
def ScB (w : World) (p : Nat) (s : ByteArray) (i : Nat) (K : Nat) (f : Bool) (oc os T : Nat) : Prop :=
  Blk w p 164 #[.string s, .int .i64 i, .map (some K), .bool f, .int .i64 oc, .int .i64 os, .slice (some ⟨T, 0, none⟩) 7 7]
section
variable {w : World} {p : Nat} {s : ByteArray} {i K : Nat} {f : Bool} {oc os T : Nat}
theorem ScB.c0 (h : ScB w p s i K f oc os T) : w.cell? ⟨p, 0, none⟩ = some (.string s) := Blk.cell h 0
theorem ScB.c1 (h : ScB w p s i K f oc os T) : w.cell? ⟨p, 1, none⟩ = some (.int .i64 i) := Blk.cell h 1
theorem ScB.c2 (h : ScB w p s i K f oc os T) : w.cell? ⟨p, 2, none⟩ = some (.map (some K)) := Blk.cell h 2
theorem ScB.c3 (h : ScB w p s i K f oc os T) : w.cell? ⟨p, 3, none⟩ = some (.bool f) := Blk.cell h 3
theorem ScB.c4 (h : ScB w p s i K f oc os T) : w.cell? ⟨p, 4, none⟩ = some (.int .i64 oc) := Blk.cell h 4
theorem ScB.c5 (h : ScB w p s i K f oc os T) : w.cell? ⟨p, 5, none⟩ = some (.int .i64 os) := Blk.cell h 5
theorem ScB.c6 (h : ScB w p s i K f oc os T) : w.cell? ⟨p, 6, none⟩ = some (.slice (some ⟨T, 0, none⟩) 7 7) := Blk.cell h 6
end

theorem ret2 {a b c d : Value} (h : a = c) (k : b = d) : Ending.returned (.tuple #[a, b]) = .returned (.tuple #[c, d]) := by rw [h, k]
theorem retII {a b c d : Int} (h : a = c) (k : b = d) : Ending.returned (.tuple #[.int .i64 a, .int .i64 b]) = .returned (.tuple #[.int .i64 c, .int .i64 d]) := by rw [h, k]

theorem drew2 {w w2 : World} (h : ∃ n, w2 = w.drewN n) (m : Nat) : ∃ n, w2.drewN m = w.drewN n := by
  obtain ⟨n, rfl⟩ := h
  exact ⟨n + m, by rw [World.drewN_drewN]⟩

/-- what the tellers tell -/
def lineT (f : Bool) (l : List UInt8) : Nat × Nat := if f = true ∧ l.head? = some 35 then (7, lineN l) else (0, 0)
def wordTl (l : List UInt8) : Nat × Nat := (if keysL.contains (l.take (wordN l)) = true then 2 else 1, wordN l)
def signT (l : List UInt8) : Nat × Nat := if signN l ≠ 0 then (6, signN l) else (0, 0)

theorem head_at (s : ByteArray) (i : Nat) (h : i < s.size) : (s.data.toList.drop i).head? = some (s[i]'h) := by rw [drop_at s i h]; rfl

set_option maxHeartbeats 4000000 in
set_option maxRecDepth 100000 in
theorem line_any (p K T oc os i : Nat) (f : Bool) (s : ByteArray) (w : World) (hi : i < s.size) (hs : s.size ≤ 4000000) (h : ScB w p s i K f oc os T) :
    Calls Tryz.prog 92 #[.pointer (some ⟨p, 0, none⟩)] w fun e w' => e = .returned (.tuple #[.int .i64 (lineT f (s.data.toList.drop i)).1, .int .i64 (lineT f (s.data.toList.drop i)).2]) ∧ ∃ n, w' = w.drewN n := by
  have c0 := h.c0
  have c1 := h.c1
  have c3 := h.c3
  have hh := head_at s i hi
  have en : ∀ args w, (callFunc 137 args).run Tryz.prog w = .ok (.enter 137 args) w := enters_of Tryz.func137 (by kernel_rfl) rfl
  have L1 := fun W => lineSize_any (s.extract i s.size) W (by rw [ByteArray.size_extract]; omega)
  rw [ext_drop] at L1
  have HL := Lib.hid L1
  unfold lineT
  rw [hh]
  clear h L1
  have q1 : (0 : Int) ≤ i := by omega
  have q2 : (i : Int) < s.size := by omega
  have q3 : (i : Int) ≤ s.size := by omega
  cases f
  · rw [if_neg (by simp)]
    clear hh en
    go_enter Tryz.func92, Tryz.ntmps92
    go_wp2_with fail
    go_quiet (fail)
    go_wp2
    go_ret2
    exact ⟨rfl, _, rfl⟩
  · by_cases q : s[i]'hi = 35
    · rw [if_pos ⟨rfl, by rw [q]⟩]
      have k : (((s[i]'hi).toNat : Int) != 35) = false := by rw [q]; rfl
      generalize lineN (s.data.toList.drop i) = n at *
      clear hh q
      go_enter Tryz.func92, Tryz.ntmps92
      go_wp2_with fail
      go_quiet (fail)
      go_wp2_with fail
      have d0 : (w.drewN nq).cell? ⟨p, 0, none⟩ = some (.string s) := c0
      have d1 : (w.drewN nq).cell? ⟨p, 1, none⟩ = some (.int .i64 i) := c1
      have hw : ∃ n, w.drewN nq = w.drewN n := ⟨_, rfl⟩
      have HW := Lib.hid hw
      clear c0 c1 c3 hw
      generalize w.drewN nq = w2 at *
      go_quiet (first | (go_at_call 137; exact Calls.quiet_of_same (HL.out _)))
      go_wp2
      go_ret2
      exact ⟨rfl, drew2 HW.out _⟩
    · rw [if_neg (by simp; exact q)]
      have k : (((s[i]'hi).toNat : Int) != 35) = true := by
        simp; intro e; exact q (UInt8.toNat_inj.1 (by have : (35 : UInt8).toNat = 35 := rfl; omega))
      clear hh q en
      go_enter Tryz.func92, Tryz.ntmps92
      go_wp2_with fail
      go_quiet (fail)
      go_wp2
      go_ret2
      exact ⟨rfl, _, rfl⟩

set_option maxHeartbeats 4000000 in
set_option maxRecDepth 100000 in
theorem word_any (p K T oc os i : Nat) (f : Bool) (s : ByteArray) (w : World) (hi : i < s.size) (hs : s.size ≤ 4000000) (h : ScB w p s i K f oc os T) (hk : KeySet w K) :
    Calls Tryz.prog 93 #[.pointer (some ⟨p, 0, none⟩)] w fun e w' => e = .returned (.tuple #[.int .i64 (wordTl (s.data.toList.drop i)).1, .int .i64 (wordTl (s.data.toList.drop i)).2]) ∧ ∃ n, w' = w.drewN n := by
  have c0 := h.c0
  have c1 := h.c1
  have c2 := h.c2
  have L1 := fun W => wordSize_any (s.extract i s.size) W (by rw [ByteArray.size_extract]; omega)
  rw [ext_drop] at L1
  have hn := wordN_le (s.data.toList.drop i)
  have hz : (s.extract i s.size).size = s.size - i := by rw [ByteArray.size_extract]; omega
  have hzl : (s.data.toList.drop i).length = s.size - i := by simp
  have hlook := fun n : Nat => KeySet.look (hk.drewN n) ((s.extract i s.size).extract 0 (wordN (s.data.toList.drop i))) (by rw [ByteArray.size_extract, hz]; unfold maxLen; omega)
  rw [ext_take, ext_drop] at hlook
  unfold wordTl
  generalize keysL.contains ((s.data.toList.drop i).take (wordN (s.data.toList.drop i))) = b at *
  generalize wordN (s.data.toList.drop i) = n at *
  rw [hzl] at hn
  have HL := Lib.hid L1
  have HZ := Lib.hid hz
  have q1 : (0 : Int) ≤ i := by omega
  have q3 : (i : Int) ≤ s.size := by omega
  have q4 : (n : Int) ≤ (s.extract i s.size).size := by rw [hz]; omega
  clear h L1 hk hz hzl
  go_enter Tryz.func93, Tryz.ntmps93
  go_wp2_with fail
  go_quiet (fail)
  have d2 : (w.drewN nq).cell? ⟨p, 2, none⟩ = some (.map (some K)) := c2
  have hw : ∃ n, w.drewN nq = w.drewN n := ⟨_, rfl⟩
  have hl2 : ∀ m, (Instr.lookup 160 (.map (some K)) (.string ((s.extract i s.size).extract 0 n)) false).run Tryz.prog ((w.drewN nq).drewN m) = .ok (.bool b) ((w.drewN nq).drewN m) := fun m => by
    rw [World.drewN_drewN]; exact hlook _
  have HW := Lib.hid hw
  clear c0 c1 c2 hw hlook
  generalize w.drewN nq = w2 at *
  go_wp2_with fail
  refine (HL.out _).mono ?_
  rintro e w3 ⟨rfl, rfl⟩
  go_wp2_with fail
  go_quiet (fail)
  cases b
  · go_wp2
    go_ret2
    exact ⟨rfl, drew2 HW.out _⟩
  · go_wp2
    go_ret2
    exact ⟨rfl, drew2 HW.out _⟩

set_option maxHeartbeats 4000000 in
set_option maxRecDepth 100000 in
theorem number_any (p K T oc os i : Nat) (f : Bool) (s : ByteArray) (w : World) (hi : i < s.size) (hs : s.size ≤ 4000000) (h : ScB w p s i K f oc os T) :
    Calls Tryz.prog 94 #[.pointer (some ⟨p, 0, none⟩)] w fun e w' => e = .returned (.tuple #[.int .i64 3, .int .i64 (numN (s.data.toList.drop i))]) ∧ ∃ n, w' = w.drewN n := by
  have c0 := h.c0
  have c1 := h.c1
  have en : ∀ args w, (callFunc 139 args).run Tryz.prog w = .ok (.enter 139 args) w := enters_of Tryz.func139 (by kernel_rfl) rfl
  have L1 := fun W => numberSize_any (s.extract i s.size) W (by rw [ByteArray.size_extract]; omega) (by rw [ByteArray.size_extract]; omega)
  rw [ext_drop] at L1
  generalize numN (s.data.toList.drop i) = n at *
  have HL := Lib.hid L1
  have q1 : (0 : Int) ≤ i := by omega
  have q3 : (i : Int) ≤ s.size := by omega
  clear h L1
  go_enter Tryz.func94, Tryz.ntmps94
  go_wp2_with fail
  go_quiet (first | (go_at_call 139; exact Calls.quiet_of (HL.out _)))
  go_wp2
  go_ret2
  exact ⟨rfl, _, rfl⟩

set_option maxHeartbeats 4000000 in
set_option maxRecDepth 100000 in
theorem odd_any (p : Nat) (w : World) :
    Calls Tryz.prog 98 #[.pointer (some ⟨p, 0, none⟩)] w fun e w' => e = .returned (.tuple #[.int .i64 8, .int .i64 1]) ∧ ∃ n, w' = w.drewN n := by
  go_enter Tryz.func98, Tryz.ntmps98
  go_wp2
  go_ret2
  exact ⟨rfl, 0, rfl⟩

theorem signsL_len : signsL.length = 47 := by decide
theorem signsB_len : signsB.length = 47 := by unfold signsB; rw [List.length_map]; exact signsL_len
theorem signsB_get (k : Nat) (h : k < signsB.length) : signsB[k] = toB (signsL[k]'(by rw [signsB_len] at h; rw [signsL_len]; exact h)) := by simp [signsB]
theorem signs_small : ∀ x ∈ signsL, 1 ≤ x.length ∧ x.length ≤ 3 := by decide

set_option maxHeartbeats 4000000 in
set_option maxRecDepth 100000 in
theorem sign_any (n0 p K T oc os i : Nat) (f : Bool) (s : ByteArray) (w : World) (hi : i < s.size) (_hs : s.size ≤ 4000000) (h : ScB w p s i K f oc os T) (hk : WordsAt w n0 1 signsB) :
    Calls Tryz.prog 97 #[.pointer (some ⟨p, 0, none⟩)] w fun e w' => e = .returned (.tuple #[.int .i64 (signT (s.data.toList.drop i)).1, .int .i64 (signT (s.data.toList.drop i)).2]) ∧ ∃ n, w' = w.drewN n := by
  have c0 := h.c0
  have c1 := h.c1
  obtain ⟨hg, B, off, c, hB, h1, h2⟩ := hk
  rw [signsB_len] at h1
  have H2 := Lib.hid h2
  have HP := Lib.hid (fun (g : ByteArray) W => Tryz.strings_HasPrefix (s.extract i s.size) g W)
  have hex := ext_drop s i
  have HEX := Lib.hid hex
  have q1 : (0 : Int) ≤ i := by omega
  have q3 : (i : Int) ≤ s.size := by omega
  clear h h2 hex
  go_enter Tryz.func97, Tryz.ntmps97
  go_wp2_with fail
  go_quiet (fail)
  have d1 : (w.drewN nq).cell? ⟨1, 0, none⟩ = some (.slice (some ⟨B, off, none⟩) 47 c) := h1
  have d2 : ∀ (j : Nat) (h : j < signsB.length), (w.drewN nq).cell? ⟨B, off + j, none⟩ = some (.string signsB[j]) := H2.out
  have hw : ∃ n, w.drewN nq = w.drewN n := ⟨_, rfl⟩
  have HW := Lib.hid hw
  have HD2 := Lib.hid d2
  clear c0 c1 hw h1 H2 d2
  generalize w.drewN nq = w2 at *
  go_wp2
  go_loopw [6, 18] (fun _ vi wr => ∃ k : Nat, k ≤ 47 ∧ vi = .int .i64 k ∧ Hid (signG (signsL.drop k) (s.data.toList.drop i) = signN (s.data.toList.drop i)) ∧ wr = w2) (fun _ vi _ => 47 - (intOf vi).toNat)
  case atStart => exact ⟨0, by omega, rfl, rfl, rfl⟩
  case round =>
    obtain ⟨k, hk, rfl, hT, rfl⟩ := hrel
    by_cases hlt : k < 47
    · have hlb : k < signsB.length := by rw [signsB_len]; exact hlt
      have hll : k < signsL.length := by rw [signsL_len]; exact hlt
      have hck := HD2.out k hlb
      have hst := hT.out
      rw [List.drop_eq_getElem_cons hll, signG] at hst
      have hsm := signs_small (signsL[k]'hll) (List.getElem_mem _)
      rw [signsB_get k hlb] at hck
      generalize signsL[k]'hll = x at *
      have hP := fun W => HP.out (toB x) W
      rw [HEX.out, toB_list, show Lib.hasPrefix (s.data.toList.drop i) x = x.isPrefixOf (s.data.toList.drop i) from rfl] at hP
      have hxs : (toB x).size = x.length := by simp [toB, ByteArray.size]
      generalize toB x = xb at *
      cases hb : x.isPrefixOf (s.data.toList.drop i)
      · rw [hb] at hst
        simp only [hb] at hP
        have HPX := Lib.hid hP
        have HST := Lib.hid hst
        clear hP hst hb hT hsm hxs
        go_wp2_with fail
        refine (HPX.out _).mono ?_
        rintro e w3 ⟨rfl, rfl⟩
        go_wp2
        go_roundw
        case rel => exact ⟨k + 1, by omega, by go_num, HST.out, trivial⟩
        case measure => simp [intOf]; omega
      · rw [hb, if_pos rfl] at hst
        simp only [hb] at hP
        have HPX := Lib.hid hP
        have hst2 : signT (s.data.toList.drop i) = (6, xb.size) := by
          unfold signT
          rw [← hst, if_pos (by omega), hxs]
        have HST := Lib.hid hst2
        clear hP hst hb hT hsm hxs hst2
        go_wp2_with fail
        refine (HPX.out _).mono ?_
        rintro e w3 ⟨rfl, rfl⟩
        go_wp2
        go_ret2
        exact ⟨by rw [HST.out]; rfl, HW.out⟩
    · obtain rfl : k = 47 := by omega
      have hst2 : signT (s.data.toList.drop i) = (0, 0) := by
        have e := hT.out
        rw [List.drop_eq_nil_of_le (by rw [signsL_len]; exact Nat.le_refl _)] at e
        unfold signT
        rw [← e, if_neg (by simp [signG])]
      have HST := Lib.hid hst2
      clear hT hst2
      go_wp2
      go_ret2
      exact ⟨by rw [HST.out]; rfl, HW.out⟩

end Go.Proofs.YtjdpkhjoecfhlaaGreatDoor
