/- strings.Cut at one byte, strings.CutPrefix, strings.CutSuffix. -/
import Derived.Test.YtcbmkkndbeiknaaGreatDoorProg
import Derived.BigQuiet
import Derived.Deep.QuietTactic
import Derived.Lib.Hide
import Derived.Lib.Bytealg
import Derived.Lib.Strings
import Derived.RegionTactic
import Derived.WalkKit
import Derived.WalkLawsBesides
import Derived.WalkSpells
import Derived.Below
namespace Go.Proofs.YtcbmkkndbeiknaaGreatDoor
open Go.RowKit Go.Maps

/-- what strings.Cut tells at one byte -/
def cutL (s : ByteArray) (c : UInt8) : ByteArray := if Lib.indexByte s.data.toList c < 0 then s else s.extract 0 (Lib.indexByte s.data.toList c).toNat
def cutR (s : ByteArray) (c : UInt8) : ByteArray := if Lib.indexByte s.data.toList c < 0 then ⟨#[]⟩ else s.extract ((Lib.indexByte s.data.toList c).toNat + 1) s.size
def cutB (s : ByteArray) (c : UInt8) : Bool := decide (0 ≤ Lib.indexByte s.data.toList c)

theorem indexByte_lt (c : UInt8) : ∀ l : List UInt8, Lib.indexByte l c < l.length
  | [] => by simp [Lib.indexByte]
  | d :: l => by
    have ih := indexByte_lt c l
    simp only [Lib.indexByte, List.length_cons]
    split
    · omega
    · split <;> omega

theorem cutL_le (s : ByteArray) (c : UInt8) : (cutL s c).size ≤ s.size := by
  unfold cutL; split
  · exact Nat.le_refl _
  · rw [ByteArray.size_extract]; omega
theorem cutR_le (s : ByteArray) (c : UInt8) : (cutR s c).size ≤ s.size := by
  unfold cutR; split
  · exact Nat.zero_le _
  · rw [ByteArray.size_extract]; omega

set_option maxHeartbeats 1000000 in
set_option maxRecDepth 100000 in
theorem liteCut_any (s : ByteArray) (c : UInt8) (hI : ∀ W, Calls Tryz.prog 145 #[.string s, .string ⟨#[c]⟩] W fun e w' => e = .returned (.int .i64 (Lib.indexByte s.data.toList c)) ∧ w' = W) (hs : s.size ≤ 8000000) (w : World) :
    Calls Tryz.prog 124 #[.string s, .string ⟨#[c]⟩] w fun e w' => e = .returned (.tuple #[.string (cutL s c), .string (cutR s c), .bool (cutB s c)]) ∧ ∃ n, w' = w.drewN n := by
  have hlt := indexByte_lt c s.data.toList
  have hl : s.data.toList.length = s.size := by simp
  rw [hl] at hlt
  unfold cutL cutR cutB
  generalize Lib.indexByte s.data.toList c = i at *
  by_cases q : i < 0
  · have q' : ¬ 0 ≤ i := by omega
    rw [if_pos q, if_pos q, decide_eq_false q']
    have H := Lib.hid hI
    clear hI hl hlt
    go_enter Tryz.func124, Tryz.ntmps124
    go_wp2_with fail
    refine (H.out _).mono ?_
    rintro e w1 ⟨rfl, rfl⟩
    go_wp2
    go_ret3
    exact ⟨rfl, 0, rfl⟩
  · rw [if_neg q, if_neg q, decide_eq_true (by omega : 0 ≤ i)]
    obtain ⟨n, rfl⟩ : ∃ n : Nat, i = n := ⟨i.toNat, by omega⟩
    have c1 : (0 : Int) ≤ n := by omega
    have c2 : (n : Int) ≤ s.size := by omega
    have c3 : (0 : Int) ≤ n + 1 := by omega
    have c4 : (n + 1 : Int) ≤ s.size := by omega
    simp only [Int.toNat_natCast]
    have H := Lib.hid hI
    clear hI hl hlt q
    go_enter Tryz.func124, Tryz.ntmps124
    go_wp2_with fail
    refine (H.out _).mono ?_
    rintro e w1 ⟨rfl, rfl⟩
    go_wp2_with fail
    go_region
    go_wp2
    go_ret3
    exact ⟨rfl, 1, rfl⟩

set_option maxHeartbeats 1000000 in
set_option maxRecDepth 100000 in
theorem cut_any (s : ByteArray) (c : UInt8) (hI : ∀ W, Calls Tryz.prog 145 #[.string s, .string ⟨#[c]⟩] W fun e w' => e = .returned (.int .i64 (Lib.indexByte s.data.toList c)) ∧ w' = W) (hs : s.size ≤ 8000000) (w : World) :
    Calls Tryz.prog 94 #[.string s, .string ⟨#[c]⟩] w fun e w' => e = .returned (.tuple #[.string (cutL s c), .string (cutR s c), .bool (cutB s c)]) ∧ ∃ n, w' = w.drewN n := by
  have H := Lib.hid (fun W => liteCut_any s c hI hs W)
  clear hI
  go_enter Tryz.func94, Tryz.ntmps94
  go_wp2_with fail
  refine (H.out _).mono ?_
  rintro e w1 ⟨rfl, n, rfl⟩
  go_wp2
  go_ret3
  exact ⟨rfl, n, rfl⟩

/-- .. and CutPrefix, CutSuffix -/
def preR (s p : ByteArray) : ByteArray := if Lib.hasPrefix s.data.toList p.data.toList = true then s.extract p.size s.size else s
def sufR (s p : ByteArray) : ByteArray := if Lib.hasSuffix s.data.toList p.data.toList = true then s.extract 0 (s.size - p.size) else s
theorem preR_le (s p : ByteArray) : (preR s p).size ≤ s.size := by
  unfold preR; split
  · rw [ByteArray.size_extract]; omega
  · exact Nat.le_refl _
theorem sufR_le (s p : ByteArray) : (sufR s p).size ≤ s.size := by
  unfold sufR; split
  · rw [ByteArray.size_extract]; omega
  · exact Nat.le_refl _
theorem pre_size {s p : ByteArray} (h : Lib.hasPrefix s.data.toList p.data.toList = true) : p.size ≤ s.size := by
  have := (List.isPrefixOf_iff_prefix.1 h).length_le
  simpa using this
theorem suf_size {s p : ByteArray} (h : Lib.hasSuffix s.data.toList p.data.toList = true) : p.size ≤ s.size := by
  have := (List.isSuffixOf_iff_suffix.1 h).length_le
  simpa using this

set_option maxHeartbeats 1000000 in
set_option maxRecDepth 100000 in
theorem liteCutPrefix_any (s p : ByteArray) (hP : ∀ W, Calls Tryz.prog 139 #[.string s, .string p] W fun e w' => e = .returned (.bool (Lib.hasPrefix s.data.toList p.data.toList)) ∧ w' = W) (_hs : s.size ≤ 8000000) (w : World) :
    Calls Tryz.prog 122 #[.string s, .string p] w fun e w' => e = .returned (.tuple #[.string (preR s p), .bool (Lib.hasPrefix s.data.toList p.data.toList)]) ∧ ∃ n, w' = w.drewN n := by
  have hsz := fun h => pre_size (s := s) (p := p) h
  unfold preR
  generalize Lib.hasPrefix s.data.toList p.data.toList = b at *
  have H := Lib.hid hP
  clear hP
  cases b
  · clear hsz
    go_enter Tryz.func122, Tryz.ntmps122
    go_wp2_with fail
    refine (H.out _).mono ?_
    rintro e w1 ⟨rfl, rfl⟩
    go_wp2
    go_ret2
    exact ⟨rfl, 0, rfl⟩
  · have h2 := hsz rfl
    have c1 : (0 : Int) ≤ p.size := by omega
    have c2 : (p.size : Int) ≤ s.size := by omega
    clear hsz
    go_enter Tryz.func122, Tryz.ntmps122
    go_wp2_with fail
    refine (H.out _).mono ?_
    rintro e w1 ⟨rfl, rfl⟩
    go_wp2
    go_ret2
    exact ⟨rfl, 0, rfl⟩

set_option maxHeartbeats 1000000 in
set_option maxRecDepth 100000 in
theorem cutPrefix_any (s p : ByteArray) (hP : ∀ W, Calls Tryz.prog 139 #[.string s, .string p] W fun e w' => e = .returned (.bool (Lib.hasPrefix s.data.toList p.data.toList)) ∧ w' = W) (hs : s.size ≤ 8000000) (w : World) :
    Calls Tryz.prog 92 #[.string s, .string p] w fun e w' => e = .returned (.tuple #[.string (preR s p), .bool (Lib.hasPrefix s.data.toList p.data.toList)]) ∧ ∃ n, w' = w.drewN n := by
  have H := Lib.hid (fun W => liteCutPrefix_any s p hP hs W)
  clear hP
  generalize Lib.hasPrefix s.data.toList p.data.toList = b at *
  go_enter Tryz.func92, Tryz.ntmps92
  go_wp2_with fail
  refine (H.out _).mono ?_
  rintro e w1 ⟨rfl, n, rfl⟩
  go_wp2
  go_ret2
  exact ⟨rfl, n, rfl⟩

set_option maxHeartbeats 1000000 in
set_option maxRecDepth 100000 in
theorem liteCutSuffix_any (s p : ByteArray) (hP : ∀ W, Calls Tryz.prog 91 #[.string s, .string p] W fun e w' => e = .returned (.bool (Lib.hasSuffix s.data.toList p.data.toList)) ∧ w' = W) (hs : s.size ≤ 8000000) (w : World) :
    Calls Tryz.prog 123 #[.string s, .string p] w fun e w' => e = .returned (.tuple #[.string (sufR s p), .bool (Lib.hasSuffix s.data.toList p.data.toList)]) ∧ ∃ n, w' = w.drewN n := by
  have hsz := fun h => suf_size (s := s) (p := p) h
  unfold sufR
  generalize Lib.hasSuffix s.data.toList p.data.toList = b at *
  have H := Lib.hid hP
  clear hP
  cases b
  · clear hsz
    go_enter Tryz.func123, Tryz.ntmps123
    go_wp2_with fail
    refine (H.out _).mono ?_
    rintro e w1 ⟨rfl, rfl⟩
    go_wp2
    go_ret2
    exact ⟨rfl, 0, rfl⟩
  · have h2 := hsz rfl
    have c1 : (0 : Int) ≤ (s.size : Int) - p.size := by omega
    have c2 : (s.size : Int) - p.size ≤ s.size := by omega
    clear hsz
    go_enter Tryz.func123, Tryz.ntmps123
    go_wp2_with fail
    refine (H.out _).mono ?_
    rintro e w1 ⟨rfl, rfl⟩
    go_wp2
    go_ret2
    exact ⟨rfl, 0, rfl⟩

set_option maxHeartbeats 1000000 in
set_option maxRecDepth 100000 in
theorem cutSuffix_any (s p : ByteArray) (hP : ∀ W, Calls Tryz.prog 91 #[.string s, .string p] W fun e w' => e = .returned (.bool (Lib.hasSuffix s.data.toList p.data.toList)) ∧ w' = W) (hs : s.size ≤ 8000000) (w : World) :
    Calls Tryz.prog 93 #[.string s, .string p] w fun e w' => e = .returned (.tuple #[.string (sufR s p), .bool (Lib.hasSuffix s.data.toList p.data.toList)]) ∧ ∃ n, w' = w.drewN n := by
  have H := Lib.hid (fun W => liteCutSuffix_any s p hP hs W)
  clear hP
  generalize Lib.hasSuffix s.data.toList p.data.toList = b at *
  go_enter Tryz.func93, Tryz.ntmps93
  go_wp2_with fail
  refine (H.out _).mono ?_
  rintro e w1 ⟨rfl, n, rfl⟩
  go_wp2
  go_ret2
  exact ⟨rfl, n, rfl⟩

end Go.Proofs.YtcbmkkndbeiknaaGreatDoor
