/- Steps of a difference in memory; the table of powers of ten; small functions over them. -/
import Derived.Test.YtcbmkkndbeiknaaGreatDoorLin
import Derived.Deep.QuietTactic
import Derived.BigQuiet
import Derived.Test.YtcbmkkndbeiknaaGreatDoorBuilder
import Derived.Deep.RegionHeld3

namespace Go.Proofs.YtcbmkkndbeiknaaGreatDoor
open Go.RowKit Go.Shelf

/-- a step: its mark and its line -/
structure St where
  m : UInt8
  x : ByteArray
instance : Inhabited St := ⟨⟨0, ByteArray.empty⟩⟩
theorem St.ext' {a b : St} (h1 : a.m = b.m) (h2 : a.x = b.x) : a = b := by cases a; cases b; simp_all
instance : DecidableEq St := fun a b => decidable_of_iff (a.m = b.m ∧ a.x = b.x) ⟨fun h => St.ext' h.1 h.2, fun h => by subst h; exact ⟨rfl, rfl⟩⟩

def St.cells (t : St) : List Value := [.int .u8 t.m.toNat, .string t.x]
def cellsS (l : List St) : List Value := l.flatMap St.cells

theorem cellsS_length (l : List St) : (cellsS l).length = l.length * 2 := by
  induction l with
  | nil => rfl
  | cons x l ih => simp [cellsS, St.cells] at ih ⊢; omega

theorem cellsS_append (l r : List St) : cellsS (l ++ r) = cellsS l ++ cellsS r := by simp [cellsS]

theorem cellsS_get : ∀ (l : List St) (i : Nat) (h : i < l.length), (cellsS l)[i * 2]? = some (.int .u8 l[i].m.toNat) ∧ (cellsS l)[i * 2 + 1]? = some (.string l[i].x)
  | [], _, h => by simp at h
  | x :: l, 0, _ => by simp [cellsS, St.cells]
  | x :: l, i + 1, h => by
    have ih := cellsS_get l i (by simpa using h)
    have e : ∀ j, (cellsS (x :: l))[j + 2]? = (cellsS l)[j]? := fun j => by
      show (St.cells x ++ cellsS l)[j + 2]? = _
      rw [List.getElem?_append_right (by simp [St.cells])]
      simp [St.cells]
    rw [show (i + 1) * 2 = i * 2 + 2 by omega, show i * 2 + 2 + 1 = i * 2 + 1 + 2 by omega, e, e]
    exact ih

theorem cellsS_one {l : List St} {u : Value} (h : u ∈ cellsS l) : u.oneCell' = true := by
  obtain ⟨x, _, hx⟩ := List.mem_flatMap.1 h
  simp [St.cells] at hx
  rcases hx with rfl | rfl <;> rfl

/-- the slice with address A reads as the steps l -/
def SSl (w : World) (B : Nat) (A : Option Addr) (l : List St) : Prop := Rd w B A (cellsS l)

theorem SSl.below {w w' : World} {B : Nat} {A : Option Addr} {l : List St} (h : SSl w B A l) (hb : Below B w w') : SSl w' B A l := Rd.below h hb
theorem SSl.more {w : World} {B B' : Nat} {A : Option Addr} {l : List St} (h : SSl w B A l) (hB : B ≤ B') : SSl w B' A l := Rd.more h hB

theorem SSl.at_ {w : World} {B : Nat} {A : Option Addr} {l : List St} (h : SSl w B A l) (i : Nat) (hi : i < l.length) :
    ∃ b off, A = some ⟨b, off, none⟩ ∧ b < B ∧ w.cell? ⟨b, off + i * 2, none⟩ = some (.int .u8 l[i].m.toNat) ∧ w.cell? ⟨b, off + i * 2 + 1, none⟩ = some (.string l[i].x) := by
  obtain ⟨b, off, e, hB, hc⟩ := h (by rw [cellsS_length]; omega)
  obtain ⟨h0, h1⟩ := cellsS_get l i hi
  exact ⟨b, off, e, hB, hc _ _ h0, by have := hc _ _ h1; rwa [← Nat.add_assoc] at this⟩

/-- a part of a slice of steps -/
theorem SSl.part {w : World} {B b off : Nat} {l : List St} (h : SSl w B (some ⟨b, off, none⟩) l) (i j : Nat) (hij : i ≤ j) (hj : j ≤ l.length) : SSl w B (some ⟨b, off + i * 2, none⟩) ((l.take j).drop i) := fun hl => by
  rw [cellsS_length] at hl
  have hlen : ((l.take j).drop i).length = j - i := by rw [List.length_drop, List.length_take]; omega
  obtain ⟨b', off', e, hB, hc⟩ := h (by rw [cellsS_length]; omega)
  injection e with e
  injection e with e1 e2
  subst e1 e2
  refine ⟨b, off + i * 2, rfl, hB, fun q u hu => ?_⟩
  rw [Nat.add_assoc]
  refine hc _ u ?_
  have hs : cellsS l = cellsS (l.take i) ++ (cellsS ((l.take j).drop i) ++ cellsS (l.drop j)) := by
    rw [← cellsS_append, ← cellsS_append]
    congr 1
    conv => lhs; rw [← List.take_append_drop i l]
    congr 1
    rw [List.drop_take]
    have : l.drop j = (l.drop i).drop (j - i) := by rw [List.drop_drop]; congr 1; omega
    rw [this, List.take_append_drop]
  rw [hs, List.getElem?_append_right (by rw [cellsS_length, List.length_take]; omega), cellsS_length, List.length_take, show i * 2 + q - min i l.length * 2 = q by omega]
  rw [List.getElem?_append_left (List.getElem?_eq_some_iff.1 hu).1]
  exact hu

/-- the table of powers of ten stands -/
def Tab (w : World) : Prop := Lib.TabIs Tryz.prog w "internal/strconv.uint64pow10" .u64 Lib.pow10Tab

theorem Tab.below {w w' : World} (h : Tab w) (hb : Below w.heap.size w w') : Tab w' := by
  unfold Tab Lib.TabIs World.var? at h ⊢
  cases hg : Tryz.prog.globalNamed "internal/strconv.uint64pow10" with
  | none => rw [hg] at h; simp at h
  | some g =>
    rw [hg] at h
    simp only [Option.bind_some] at h ⊢
    have hlt : g < w.heap.size := by
      rcases Nat.lt_or_ge g w.heap.size with h' | h'
      · exact h'
      · rw [Array.getElem?_eq_none h'] at h; simp at h
    rw [hb.block g hlt]
    exact h

/-- whether a line has its line feed -/
def hasEndF (x : ByteArray) : Bool := Lib.hasSuffix x.data.toList [10]

set_option maxHeartbeats 400000 in
theorem hasEnd_any (x : ByteArray) (w : World) (hs : x.size ≤ 8000000) :
    Calls Tryz.prog 49 #[.string x] w fun e w' => e = .returned (.bool (hasEndF x)) ∧ w' = w := by
  have h := Tryz.strings_HasSuffix x ⟨#[10]⟩ w (by omega)
  have e : Lib.hasSuffix x.data.toList (ByteArray.mk #[10]).data.toList = hasEndF x := rfl
  rw [e] at h
  generalize hasEndF x = b at *
  have H := Lib.hid h
  clear h e
  go_enter Tryz.func49, Tryz.ntmps49
  go_wp2_with (go_at_call 67; refine H.out.mono ?_; rintro e w' ⟨rfl, rfl⟩)
  go_ret
  exact ⟨rfl, rfl⟩

/-- how many of a difference's lines are lines of a, and of b -/
def sideA : List St → Nat
  | [] => 0
  | t :: l => (if t.m = 43 then 0 else 1) + sideA l
def sideB : List St → Nat
  | [] => 0
  | t :: l => (if t.m = 45 then 0 else 1) + sideB l

theorem sideA_take (l : List St) (k : Nat) (h : k < l.length) : sideA (l.take (k + 1)) = sideA (l.take k) + (if l[k].m = 43 then 0 else 1) := by
  induction l generalizing k with
  | nil => simp at h
  | cons x l ih =>
    cases k with
    | zero => simp [sideA]
    | succ k => simp only [List.take_succ_cons, sideA, List.getElem_cons_succ, ih k (by simpa using h)]; omega
theorem sideB_take (l : List St) (k : Nat) (h : k < l.length) : sideB (l.take (k + 1)) = sideB (l.take k) + (if l[k].m = 45 then 0 else 1) := by
  induction l generalizing k with
  | nil => simp at h
  | cons x l ih =>
    cases k with
    | zero => simp [sideB]
    | succ k => simp only [List.take_succ_cons, sideB, List.getElem_cons_succ, ih k (by simpa using h)]; omega
theorem sideA_le (l : List St) : sideA l ≤ l.length := by
  induction l with
  | nil => simp [sideA]
  | cons x l ih => simp only [sideA, List.length_cons]; split <;> omega
theorem sideB_le (l : List St) : sideB l ≤ l.length := by
  induction l with
  | nil => simp [sideB]
  | cons x l ih => simp only [sideB, List.length_cons]; split <;> omega

theorem mark_eq (a b : UInt8) : ((a.toNat : Int) == (b.toNat : Int)) = decide (a = b) := by
  by_cases h : a = b
  · subst h; simp
  · have : a.toNat ≠ b.toNat := fun e => h (UInt8.toNat_inj.1 e)
    simp [h]; omega

set_option maxHeartbeats 1000000 in
set_option maxRecDepth 100000 in
theorem sides_any (A : Option Addr) (c : Nat) (l : List St) (w : World) (hl : l.length ≤ 1000000) (h : SSl w w.heap.size A l) :
    Calls Tryz.prog 51 #[.slice A l.length c] w fun e w' => e = .returned (.tuple #[.int .i64 (sideA l), .int .i64 (sideB l)]) ∧ Below w.heap.size w w' := by
  go_enter Tryz.func51, Tryz.ntmps51
  go_wp2
  go_loopw [2, 3, 8] (fun a b i wr => ∃ k : Nat, k ≤ l.length ∧ i = .int .i64 k ∧ a = .int .i64 (sideA (l.take k)) ∧ b = .int .i64 (sideB (l.take k)) ∧ Below w.heap.size w wr) (fun _ _ i _ => l.length - (intOf i).toNat)
  case atStart => exact ⟨0, Nat.zero_le _, rfl, by simp [sideA], by simp [sideB], Below.refl _ _⟩
  case round =>
    obtain ⟨k, hk, rfl, rfl, rfl, hb⟩ := hrel
    have ha := sideA_le (l.take k)
    have hbb := sideB_le (l.take k)
    have htk : (l.take k).length ≤ 1000000 := by rw [List.length_take]; omega
    by_cases hlt : k < l.length
    · obtain ⟨b, off, rfl, hB, c0, c1⟩ := (h.below hb).at_ k hlt
      have sa := sideA_take l k hlt
      have sb := sideB_take l k hlt
      generalize sideA (l.take k) = a at *
      generalize sideB (l.take k) = bb at *
      generalize l[k].m = m at *
      have SA := Lib.hid sa
      have SB := Lib.hid sb
      have e1 := mark_eq m 43
      have e2 := mark_eq m 45
      clear sa sb h
      have ha : a ≤ 1000000 := by omega
      have hbb : bb ≤ 1000000 := by omega
      by_cases q1 : m = 43
      · subst q1
        go_wp2
        go_roundw
        case rel => exact ⟨k + 1, by omega, by go_num, by rw [SA.out]; simp, by rw [SB.out]; go_num, hb.alloc hb.size _⟩
        case measure => simp [intOf]; omega
      · by_cases q2 : m = 45
        · subst q2
          go_wp2
          go_roundw
          case rel => exact ⟨k + 1, by omega, by go_num, by rw [SA.out]; go_num, by rw [SB.out]; simp, hb.alloc hb.size _⟩
          case measure => simp [intOf]; omega
        · have q1' : ((m.toNat : Int) != 43) = true := by have := e1; simp [q1] at this ⊢; omega
          have q2' : ((m.toNat : Int) != 45) = true := by have := e2; simp [q2] at this ⊢; omega
          have Q1 := Lib.hid q1
          have Q2 := Lib.hid q2
          clear q1 q2 e1 e2
          go_wp2
          go_roundw
          case rel => exact ⟨k + 1, by omega, by go_num, by rw [SA.out, if_neg Q1.out]; go_num, by rw [SB.out, if_neg Q2.out]; go_num, hb.alloc hb.size _⟩
          case measure => simp [intOf]; omega
    · have hkl : k = l.length := by omega
      rw [hkl, List.take_length] at *
      clear h
      go_wp2
      go_ret2
      exact ⟨rfl, hb⟩

end Go.Proofs.YtcbmkkndbeiknaaGreatDoor

namespace Go.Proofs.YtcbmkkndbeiknaaGreatDoor
open Go.RowKit Go.Shelf

/-- the place of the first change from a place on, or the number of lines -/
def nextF : List St → Nat
  | [] => 0
  | t :: l => if t.m = 32 then nextF l + 1 else 0

theorem nextF_le : ∀ l, nextF l ≤ l.length
  | [] => Nat.le_refl _
  | t :: l => by unfold nextF; have := nextF_le l; split <;> simp; omega

set_option maxHeartbeats 1000000 in
set_option maxRecDepth 100000 in
theorem nextChange_any (A : Option Addr) (c : Nat) (l : List St) (k : Nat) (w : World) (hk : k ≤ l.length) (hl : l.length ≤ 1000000) (h : SSl w w.heap.size A l) :
    Calls Tryz.prog 57 #[.slice A l.length c, .int .i64 k] w fun e w' => e = .returned (.int .i64 (k + nextF (l.drop k) : Nat)) ∧ w = w' := by
  go_enter Tryz.func57, Tryz.ntmps57
  go_wp2
  go_loop [1] (fun i => ∃ q : Nat, q ≤ l.length ∧ i = .int .i64 q ∧ Hid (q + nextF (l.drop q) = k + nextF (l.drop k))) (fun i => l.length - (intOf i).toNat)
  case atStart => exact ⟨k, hk, rfl, rfl⟩
  case round =>
    obtain ⟨q, hq, rfl, hn⟩ := hrel
    by_cases hlt : q < l.length
    · obtain ⟨b, off, rfl, hB, c0, _⟩ := h.at_ q hlt
      have hs : nextF (l.drop q) = if l[q].m = 32 then nextF (l.drop (q + 1)) + 1 else 0 := by
        rw [List.drop_eq_getElem_cons hlt]; rfl
      have hn1 := hn.out
      rw [hs] at hn1
      have e1 := mark_eq l[q].m 32
      generalize l[q].m = m at *
      have HN := Lib.hid hn1
      clear hs hn hn1 h
      by_cases q1 : m = 32
      · subst q1
        go_wp2
        go_round
        case rel => exact ⟨q + 1, by omega, by go_num, by unfold Hid; have := HN.out; simp at this; omega⟩
        case measure => simp [intOf]; omega
      · have q1' : ((m.toNat : Int) == 32) = false := by have := e1; simp [q1] at this ⊢; omega
        have Q1 := Lib.hid q1
        clear q1 e1
        go_wp2
        go_ret
        have := HN.out
        rw [if_neg Q1.out] at this
        exact ⟨ret_int (by omega), rfl⟩
    · have hn1 := hn.out
      rw [List.drop_eq_nil_of_le (by omega)] at hn1
      have HN := Lib.hid hn1
      clear hn hn1 h
      go_wp2
      go_ret
      have := HN.out
      simp only [nextF] at this
      exact ⟨ret_int (by omega), rfl⟩

/-- one side of a head -/
def spanF (before n : Nat) : List UInt8 := Lib.itoa (if 0 < n then before + 1 else before : Nat) ++ 44 :: Lib.itoa n

theorem itoa_any (z : Int) (w : World) (h0 : 0 ≤ z) (hn : z ≤ 4000000) (ht : Tab w) :
    Calls Tryz.prog 73 #[.int .i64 z] w fun e w' => e = .returned (.string (ofL (Lib.itoa z))) ∧ ∃ k os, w' = Go.Sort.grow (w.drewN k) os :=
  Tryz.strconv_Itoa z (by omega) (by omega) w ht

theorem nDigits_le : ∀ (k u : Nat), u < 10 ^ (k + 1) → Lib.nDigits u ≤ k + 1
  | 0, u, h => by rw [Lib.nDigits, dif_pos (by simpa using h)]; exact Nat.le_refl _
  | k + 1, u, h => by
    rw [Lib.nDigits]
    split
    · omega
    · have : u / 10 < 10 ^ (k + 1) := by rw [Nat.pow_succ] at h; omega
      have := nDigits_le k (u / 10) this
      omega

theorem itoa_len (z : Int) (h0 : 0 ≤ z) (hz : z ≤ 4000000) : (ofL (Lib.itoa z)).size ≤ 7 := by
  obtain ⟨u, rfl⟩ := Int.eq_ofNat_of_zero_le h0
  have h : Lib.nDigits u ≤ 7 := nDigits_le 6 u (by omega)
  rw [Lib.itoa_nonneg]
  show (Lib.decDigits u).toArray.size ≤ 7
  rw [List.size_toArray, Lib.decDigits_length]
  exact h

theorem ofL_append (a b : List UInt8) : ofL a ++ ofL b = ofL (a ++ b) := by
  apply ofL_eq
  rw [ByteArray.data_append]
  simp [ofL]

theorem below_grow (w : World) (k : Nat) (os : Array Obj) : Below w.heap.size w (Go.Sort.grow (w.drewN k) os) :=
  ⟨rfl, rfl, rfl, by show w.heap.size ≤ (w.heap ++ os).size; simp, fun i hi => by show (w.heap ++ os)[i]? = _; rw [Array.getElem?_append_left hi]⟩

theorem grow_twice (w : World) (k q : Nat) (os os' : Array Obj) : Go.Sort.grow ((Go.Sort.grow (w.drewN k) os).drewN q) os' = Go.Sort.grow (w.drewN (k + q)) (os ++ os') := by
  show Go.Sort.grow (Go.Sort.grow ((w.drewN k).drewN q) os) os' = _
  rw [Go.Sort.grow_grow, World.drewN_drewN]

set_option maxHeartbeats 1000000 in
set_option maxRecDepth 100000 in
theorem writeSpan_any (b n : Nat) (w : World) (hb : b ≤ 1000000) (hn : n ≤ 1000000) (ht : Tab w) :
    Calls Tryz.prog 54 #[.int .i64 b, .int .i64 n] w fun e w' => e = .returned (.string (ofL (spanF b n))) ∧ ∃ k os, w' = Go.Sort.grow (w.drewN k) os := by
  have HT := Lib.hid ht
  clear ht
  by_cases hn0 : 0 < n
  · have l1 := itoa_len (b + 1) (by omega) (by omega)
    have l2 := itoa_len n (by omega) (by omega)
    go_enter Tryz.func54, Tryz.ntmps54
    go_wp2_with fail
    refine (itoa_any _ _ (by omega) (by omega) HT.out).mono ?_
    rintro e w1 ⟨rfl, k1, os1, rfl⟩
    have HT1 := Lib.hid (HT.out.below (below_grow w k1 os1))
    go_wp2_with fail
    refine (itoa_any _ _ (by omega) (by omega) HT1.out).mono ?_
    rintro e w2 ⟨rfl, k2, os2, rfl⟩
    go_wp2
    go_ret
    refine ⟨ret_str ?_, k1 + k2, os1 ++ os2, grow_twice _ _ _ _ _⟩
    show ofL _ ++ ofL [44] ++ ofL _ = _
    rw [ofL_append, ofL_append, spanF, if_pos hn0, List.append_assoc]
    rfl
  · have l1 := itoa_len b (by omega) (by omega)
    have l2 := itoa_len n (by omega) (by omega)
    go_enter Tryz.func54, Tryz.ntmps54
    go_wp2_with fail
    refine (itoa_any _ _ (by omega) (by omega) HT.out).mono ?_
    rintro e w1 ⟨rfl, k1, os1, rfl⟩
    have HT1 := Lib.hid (HT.out.below (below_grow w k1 os1))
    go_wp2_with fail
    refine (itoa_any _ _ (by omega) (by omega) HT1.out).mono ?_
    rintro e w2 ⟨rfl, k2, os2, rfl⟩
    go_wp2
    go_ret
    refine ⟨ret_str ?_, k1 + k2, os1 ++ os2, grow_twice _ _ _ _ _⟩
    show ofL _ ++ ofL [44] ++ ofL _ = _
    rw [ofL_append, ofL_append, spanF, if_neg (by omega), List.append_assoc]
    rfl

end Go.Proofs.YtcbmkkndbeiknaaGreatDoor

namespace Go.Proofs.YtcbmkkndbeiknaaGreatDoor
open Go.RowKit Go.Shelf

/-- the cells of a new block -/
theorem news_new (w : World) (t : TypeId) (cs : Array Value) : ∀ (j : Nat) (u : Value), cs.toList[j]? = some u → (w.alloc (.cells cs t)).cell? ((⟨w.heap.size, 0, none⟩ : Addr).add j) = some u := fun j u hu => by
  rw [Addr.add_lit, Nat.zero_add, cell_of_row _ _ _ _ _ (0, 0) (heap_alloc_new w (Obj.cells cs t))]
  simpa using hu

/-- a hunk: how many lines stand before it in a and in b, and its steps -/
structure Hk where
  a : Nat
  b : Nat
  st : List St

def headF (h : Hk) : List UInt8 := [64, 64, 32] ++ spanF h.a (sideA h.st) ++ [32] ++ spanF h.b (sideB h.st) ++ [32, 64, 64, 10]
def noEndF : List UInt8 := [10, 92, 32, 110, 111, 32, 101, 110, 100, 10]
def stepF (t : St) : List UInt8 := t.m :: t.x.data.toList ++ (if hasEndF t.x = true then [] else noEndF)
def stepsF (l : List St) : List UInt8 := l.flatMap stepF
def hunkF (h : Hk) : List UInt8 := headF h ++ stepsF h.st
def hunksF (l : List Hk) : List UInt8 := l.flatMap hunkF

/-- the slice with address A reads as the hunks hs -/
def HSl (w : World) (B : Nat) (A : Option Addr) (hs : List Hk) : Prop :=
  ∀ (i : Nat) (hi : i < hs.length), ∃ b off Ai ci, A = some ⟨b, off, none⟩ ∧ b < B ∧ w.cell? ⟨b, off + i * 3, none⟩ = some (.int .i64 hs[i].a) ∧ w.cell? ⟨b, off + i * 3 + 1, none⟩ = some (.int .i64 hs[i].b) ∧
    w.cell? ⟨b, off + i * 3 + 2, none⟩ = some (.slice Ai hs[i].st.length ci) ∧ SSl w B Ai hs[i].st

theorem HSl.below {w w' : World} {B : Nat} {A : Option Addr} {l : List Hk} (h : HSl w B A l) (hb : Below B w w') : HSl w' B A l := fun i hi => by
  obtain ⟨b, off, Ai, ci, e, hB, h0, h1, h2, hs⟩ := h i hi
  refine ⟨b, off, Ai, ci, e, hB, ?_, ?_, ?_, hs.below hb⟩
  · rw [hb.cell (p := ⟨b, off + i * 3, none⟩) hB]; exact h0
  · rw [hb.cell (p := ⟨b, off + i * 3 + 1, none⟩) hB]; exact h1
  · rw [hb.cell (p := ⟨b, off + i * 3 + 2, none⟩) hB]; exact h2

theorem HSl.more {w : World} {B B' : Nat} {A : Option Addr} {l : List Hk} (h : HSl w B A l) (hB : B ≤ B') : HSl w B' A l := fun i hi => by
  obtain ⟨b, off, Ai, ci, e, hb, h0, h1, h2, hs⟩ := h i hi
  exact ⟨b, off, Ai, ci, e, by omega, h0, h1, h2, hs.more hB⟩

/-- hunks that are not too large -/
def SmallH (l : List Hk) : Prop := ∀ h ∈ l, h.a ≤ 100000 ∧ h.b ≤ 100000 ∧ h.st.length ≤ 100000 ∧ ∀ t ∈ h.st, t.x.size ≤ 8000000

theorem span_len (b n : Nat) (hb : b ≤ 1000000) (hn : n ≤ 1000000) : (ofL (spanF b n)).size ≤ 15 := by
  have h2 := itoa_len n (by omega) (by omega)
  unfold spanF ofL ByteArray.size at *
  simp only [List.size_toArray, List.length_append, List.length_cons] at *
  by_cases hn0 : 0 < n
  · have h1 := itoa_len (b + 1) (by omega) (by omega)
    unfold ofL ByteArray.size at h1
    simp only [List.size_toArray] at h1
    rw [if_pos hn0, Int.natCast_add, Int.natCast_one]
    omega
  · have h1 := itoa_len b (by omega) (by omega)
    unfold ofL ByteArray.size at h1
    simp only [List.size_toArray] at h1
    rw [if_neg hn0]
    omega

theorem run_cat (x y : ByteArray) (W : World) (hx : x.size ≤ 1000000) (hy : y.size ≤ 1000000) : (Op.stringOp .add x y).run Tryz.prog W = .ok (.string (x ++ y)) W :=
  run_string_add_sum W x y (by omega)

/-- while a head is written: the table stands, the builder holds acc, and all that lay in w0 lies as it lay -/
def HGood (w0 : World) (B : Nat) (acc : List UInt8) (w : World) : Prop := Tab w ∧ Bld w B B acc ∧ Below w0.heap.size w0 w

theorem HGood.drew {w0 w : World} {B : Nat} {acc : List UInt8} (h : HGood w0 B acc w) : HGood w0 B acc w.drew := ⟨h.1.below (Below.refl _ _).drew, h.2.1.drew, h.2.2.drew⟩

theorem span_at {w0 W : World} {B X : Nat} {acc : List UInt8} {u v : Value} (b n : Nat) (hb : b ≤ 1000000) (hn : n ≤ 1000000) (hX : X < w0.heap.size) (c0 : W.cell? ⟨X, 0, none⟩ = some u) (c1 : W.cell? ⟨X, 1, none⟩ = some v) (hg : HGood w0 B acc W) :
    Calls Tryz.prog 54 #[.int .i64 b, .int .i64 n] W fun e w' => e = .returned (.string (ofL (spanF b n))) ∧ w'.cell? ⟨X, 0, none⟩ = some u ∧ w'.cell? ⟨X, 1, none⟩ = some v ∧ HGood w0 B acc w' :=
  (writeSpan_any b n W hb hn hg.1).mono fun _ _ ⟨he, k, os, hw⟩ => by
    subst hw
    have hbl := below_grow W k os
    have hlt : X < W.heap.size := Nat.lt_of_lt_of_le hX hg.2.2.size
    exact ⟨he, (hbl.cell (p := ⟨X, 0, none⟩) hlt).trans c0, (hbl.cell (p := ⟨X, 1, none⟩) hlt).trans c1, hg.1.below hbl, hg.2.1.below hbl, hg.2.2.trans (hbl.mono hg.2.2.size)⟩

theorem ws_at {w0 W : World} {B X : Nat} {acc : List UInt8} {u v z : Value} (s : ByteArray) (hlen : acc.length + s.size ≤ 140737488355328) (hB : B < w0.heap.size) (hX : X < w0.heap.size) (hXB : X ≠ B) (hx : w0.heap[X]? = some (.cells #[u, v, z] 66 (0, 0))) (hg : HGood w0 B acc W) :
    Calls Tryz.prog 41 #[.pointer (some ⟨B, 0, none⟩), .string s] W fun e w' => e = .returned (.tuple #[.int .i64 s.size, .nilIface]) ∧ w'.cell? ⟨X, 0, none⟩ = some u ∧ w'.cell? ⟨X, 1, none⟩ = some v ∧ w'.heap[X]? = some (.cells #[u, v, z] 66 (0, 0)) ∧ Bld w' B B (acc ++ s.data.toList) ∧ Below B w0 w' ∧ w0.heap.size ≤ w'.heap.size :=
  (writeString_any B B acc s W hg.2.1 hlen (by have := hg.2.2.size; omega)).mono fun _ w' ⟨he, h1, h2⟩ => by
    have h3 := (hg.2.2.block X hX).trans hx
    have h4 := h2.block h3 hXB (by decide)
    exact ⟨he, cell_of_row w' _ _ _ _ (0, 0) h4, cell_of_row w' _ _ _ _ (0, 0) h4, h4, h1, (hg.2.2.mono (by omega)).trans h2.1, Nat.le_trans hg.2.2.size h2.1.size⟩

set_option maxHeartbeats 1000000 in
set_option maxRecDepth 100000 in
theorem writeHunks_any (A : Option Addr) (c : Nat) (l : List Hk) (w : World) (hl : l.length ≤ 1000000) (hS : SmallH l) (hb : (hunksF l).length ≤ 100000000) (h : HSl w w.heap.size A l) (ht : Tab w) :
    Calls Tryz.prog 34 #[.slice A l.length c] w fun e w' => e = .returned (.string (ofL (hunksF l))) ∧ Below w.heap.size w w' := by
  have HT := Lib.hid ht
  have HH := Lib.hid h
  have HS := Lib.hid hS
  have HBD := Lib.hid hb
  clear ht h hS hb
  go_enter Tryz.func34, Tryz.ntmps34
  go_wp2
  have hB0 := Bld.new w
  go_loopw [12] (fun i wr => ∃ (k : Nat) (acc : List UInt8), k ≤ l.length ∧ i = .int .i64 k ∧ Hid (acc ++ hunksF (l.drop k) = hunksF l) ∧ Bld wr w.heap.size w.heap.size acc ∧ Below w.heap.size w wr) (fun i _ => l.length - (intOf i).toNat)
  case atStart => exact ⟨0, [], Nat.zero_le _, rfl, rfl, hB0, (Below.refl _ _).alloc (Nat.le_refl _) _⟩
  case round =>
    clear hB0
    obtain ⟨k, acc, hk, rfl, hm, hbl, hb⟩ := hrel
    have hL := hbl.lt
    by_cases hlt : k < l.length
    · obtain ⟨b, off, Ai, ci, rfl, hB, c0, c1, c2, hSS⟩ := HH.out.below hb k hlt
      have hsm := HS.out _ (List.getElem_mem hlt)
      have hm1 := hm.out
      rw [List.drop_eq_getElem_cons hlt] at hm1
      generalize l[k] = hk1 at *
      obtain ⟨s1, s2, s3, s4⟩ := hsm
      have S4 := Lib.hid s4
      have HM := Lib.hid hm1
      have hsid := sideA_le hk1.st
      have hsid2 := sideB_le hk1.st
      clear hm hm1 s4
      go_wp2_with fail
      refine (sides_any Ai ci hk1.st _ (by omega) (Rd.more (hSS.below (hb.trans (Below.refl _ _) |> fun _ => (Below.refl w.heap.size wr).alloc (by omega) _)) (by simp; omega))).mono ?_
      rintro e w2 ⟨rfl, hb2⟩
      have hx := (hb2.block wr.heap.size (by simp)).trans (heap_alloc_new wr (Obj.cells #[Value.int IntKind.i64 ↑hk1.a, Value.int IntKind.i64 ↑hk1.b, Value.slice Ai hk1.st.length ci] 66))
      have hXlt : wr.heap.size < w2.heap.size := by have := hb2.size; simp at this; omega
      have d0 : w2.drew.cell? ⟨wr.heap.size, 0, none⟩ = some (.int .i64 hk1.a) := cell_of_row w2 _ _ _ _ (0, 0) hx
      have d1 : w2.drew.cell? ⟨wr.heap.size, 1, none⟩ = some (.int .i64 hk1.b) := cell_of_row w2 _ _ _ _ (0, 0) hx
      have hbl2 : Bld w2 w.heap.size w.heap.size acc := (hbl.alloc _).below hb2
      have hBel : Below w.heap.size w w2 := (hb.alloc (by omega) _).trans (hb2.mono (by simp; omega))
      have hgood : HGood w2 w.heap.size acc w2.drew := HGood.drew ⟨HT.out.below hBel, hbl2, Below.refl _ _⟩
      have l1 := span_len hk1.a (sideA hk1.st) (by omega) (by omega)
      have l2 := span_len hk1.b (sideB hk1.st) (by omega) (by omega)
      have K1 := fun (W : World) (b n : Nat) hb hn c0 c1 hg => span_at (w0 := w2) (W := W) (B := w.heap.size) (X := wr.heap.size) (acc := acc) (u := .int .i64 hk1.a) (v := .int .i64 hk1.b) b n hb hn hXlt c0 c1 hg
      have z1 : (⟨#[64, 64, 32]⟩ : ByteArray).size = 3 := rfl
      have z2 : (⟨#[32]⟩ : ByteArray).size = 1 := rfl
      have z3 : (⟨#[32, 64, 64, 10]⟩ : ByteArray).size = 4 := rfl
      have q1 := fun W => run_cat ⟨#[64, 64, 32]⟩ (ofL (spanF hk1.a (sideA hk1.st))) W (by omega) (by omega)
      have q2 := fun W => run_cat (⟨#[64, 64, 32]⟩ ++ (ofL (spanF hk1.a (sideA hk1.st)))) ⟨#[32]⟩ W (by rw [ByteArray.size_append]; omega) (by omega)
      have q3 := fun W => run_cat (⟨#[64, 64, 32]⟩ ++ (ofL (spanF hk1.a (sideA hk1.st))) ++ ⟨#[32]⟩) (ofL (spanF hk1.b (sideB hk1.st))) W (by rw [ByteArray.size_append, ByteArray.size_append]; omega) (by omega)
      have q4 := fun W => run_cat (⟨#[64, 64, 32]⟩ ++ (ofL (spanF hk1.a (sideA hk1.st))) ++ ⟨#[32]⟩ ++ (ofL (spanF hk1.b (sideB hk1.st)))) ⟨#[32, 64, 64, 10]⟩ W (by rw [ByteArray.size_append, ByteArray.size_append, ByteArray.size_append]; omega) (by omega)
      have q5 : (⟨#[64, 64, 32]⟩ ++ (ofL (spanF hk1.a (sideA hk1.st))) ++ ⟨#[32]⟩ ++ (ofL (spanF hk1.b (sideB hk1.st))) ++ ⟨#[32, 64, 64, 10]⟩ : ByteArray).size ≤ 1000000 := by rw [ByteArray.size_append, ByteArray.size_append, ByteArray.size_append, ByteArray.size_append]; omega
      have hacc : acc.length ≤ 100000000 := by
        have e := congrArg List.length HM.out; rw [List.length_append] at e; have := HBD.out; omega
      have K3 := fun (W : World) hg => ws_at (w0 := w2) (W := W) (B := w.heap.size) (X := wr.heap.size) (acc := acc) (⟨#[64, 64, 32]⟩ ++ (ofL (spanF hk1.a (sideA hk1.st))) ++ ⟨#[32]⟩ ++ (ofL (spanF hk1.b (sideB hk1.st))) ++ ⟨#[32, 64, 64, 10]⟩) (by omega) (by omega) hXlt (by omega) hx hg
      have HK1 := Lib.hid K1
      have HK3 := Lib.hid K3
      have HX := Lib.hid hx
      have HBel := Lib.hid hBel
      have HSS := Lib.hid (hSS.below (((Below.refl w.heap.size wr).alloc (by omega) _).trans (hb2.mono (by simp; omega))))
      have hst : hk1.st.length ≤ 100000 := s3
      clear K1 K3 z1 z2 z3 hx q5 hSS hBel hbl2 hb hbl hb2 c0 c1 c2
      go_wp2_with fail
      go_region_held3 (fun w' => w'.cell? ⟨wr.heap.size, 0, none⟩ = some (.int .i64 hk1.a) ∧ w'.cell? ⟨wr.heap.size, 1, none⟩ = some (.int .i64 hk1.b))
        (go_keep)
        (first
          | (go_at_call 54; refine (HK1.out _ _ _ (by omega) (by omega) (by assumption) (by assumption) (by assumption)).mono ?_; rintro e w' ⟨rfl, _, _, _⟩)
          | (go_at_call 41; refine (HK3.out _ (by assumption)).mono ?_; rintro e w' ⟨rfl, _, _, hx3, hbl3, hB3, hsz3⟩))
      have d2 : w'.cell? ⟨wr.heap.size, 2, none⟩ = some (.slice Ai hk1.st.length ci) := cell_of_row w' _ _ _ _ (0, 0) hx3
      have hHM : (acc ++ (⟨#[64, 64, 32]⟩ ++ (ofL (spanF hk1.a (sideA hk1.st))) ++ ⟨#[32]⟩ ++ (ofL (spanF hk1.b (sideB hk1.st))) ++ ⟨#[32, 64, 64, 10]⟩ : ByteArray).data.toList) ++ (stepsF hk1.st ++ hunksF (l.drop (k + 1))) = hunksF l := by
        rw [← HM.out]
        show _ = acc ++ (hunkF hk1 ++ hunksF (l.drop (k + 1)))
        have e : (⟨#[64, 64, 32]⟩ ++ (ofL (spanF hk1.a (sideA hk1.st))) ++ ⟨#[32]⟩ ++ (ofL (spanF hk1.b (sideB hk1.st))) ++ ⟨#[32, 64, 64, 10]⟩ : ByteArray) = ofL (headF hk1) := by
          show ofL [64, 64, 32] ++ _ ++ ofL [32] ++ _ ++ ofL [32, 64, 64, 10] = _
          rw [ofL_append, ofL_append, ofL_append, ofL_append]; rfl
        rw [e, ofL_toList]
        simp [hunkF]
      generalize acc ++ (⟨#[64, 64, 32]⟩ ++ (ofL (spanF hk1.a (sideA hk1.st))) ++ ⟨#[32]⟩ ++ (ofL (spanF hk1.b (sideB hk1.st))) ++ ⟨#[32, 64, 64, 10]⟩ : ByteArray).data.toList = acc1 at *
      have HHM := Lib.hid hHM
      have HBel2 := Lib.hid (HBel.out.trans hB3)
      have HSS2 := Lib.hid (HSS.out.below hB3)
      have hLw : w.heap.size < w'.heap.size := by omega
      clear q1 q2 q3 q4 l1 l2 hgood HK1 HK3 d0 d1 hHM HM HSS
      go_wp2
      obtain ⟨wo, rfl⟩ : ∃ wo : World, wo = wr := ⟨_, rfl⟩
      go_loopw [38] (fun j wq => ∃ (q : Nat) (acc2 : List UInt8), q ≤ hk1.st.length ∧ j = .int .i64 q ∧ Hid (acc2 ++ (stepsF (hk1.st.drop q) ++ hunksF (l.drop (k + 1))) = hunksF l) ∧ Bld wq w.heap.size w.heap.size acc2 ∧ Below w.heap.size w' wq) (fun j _ => hk1.st.length - (intOf j).toNat)
      case atStart => exact ⟨0, acc1, Nat.zero_le _, rfl, HHM.out, hbl3, Below.refl _ _⟩
      case round =>
        clear hbl3 HHM
        obtain ⟨q, acc2, hq, rfl, hm2, hbl4, hb4⟩ := hrel
        have hL4 := hbl4.lt
        by_cases hlt2 : q < hk1.st.length
        · obtain ⟨b', off', rfl, hB', e0, e1⟩ := (HSS2.out.below hb4).at_ q hlt2
          have hsx := S4.out _ (List.getElem_mem hlt2)
          have hm3 := hm2.out
          rw [List.drop_eq_getElem_cons hlt2] at hm3
          have hst3 : stepsF (hk1.st[q] :: hk1.st.drop (q + 1)) = hk1.st[q].m :: hk1.st[q].x.data.toList ++ (if hasEndF hk1.st[q].x = true then [] else noEndF) ++ stepsF (hk1.st.drop (q + 1)) := rfl
          rw [hst3] at hm3
          generalize hk1.st[q].m = m at *
          generalize hk1.st[q].x = x at *
          have hacc2 : acc2.length ≤ 100000000 := by
            have e := congrArg List.length hm3; rw [List.length_append] at e; have := HBD.out; omega
          have HM3 := Lib.hid hm3
          clear hm2 hm3 hst3
          go_wp2_with fail
          have hy := heap_alloc_new wr (Obj.cells #[Value.int IntKind.u8 ↑m.toNat, Value.string x] 72)
          refine (writeByte_any w.heap.size w.heap.size acc2 m _ (hbl4.alloc _) (by omega) (by simp; omega)).mono ?_
          rintro e w5 ⟨rfl, hbl5, hk5⟩
          have hy5 := hk5.block hy (by omega) (by decide)
          have e5 : w5.cell? ⟨wr.heap.size, 1, none⟩ = some (.string x) := cell_of_row w5 _ _ _ _ (0, 0) hy5
          have hL5 := hbl5.lt
          have HY5 := Lib.hid hy5
          clear hy hy5 e0 e1
          go_wp2_with fail
          refine (writeString_any w.heap.size w.heap.size _ x _ hbl5 (by rw [List.length_append]; simp; omega) (by omega)).mono ?_
          rintro e w6 ⟨rfl, hbl6, hk6⟩
          have hy6 := hk6.block HY5.out (by omega) (by decide)
          have e6 : w6.cell? ⟨wr.heap.size, 1, none⟩ = some (.string x) := cell_of_row w6 _ _ _ _ (0, 0) hy6
          have hL6 := hbl6.lt
          have HB6 := Lib.hid (((hb4.alloc (by omega) _).trans hk5.1).trans hk6.1)
          clear hy6 e5 hb4 hk5 hk6 hbl4 hbl5
          go_wp2_with fail
          cases he : hasEndF x
          · have hcall := hasEnd_any x w6 hsx
            rw [he] at hcall
            have hm4 := HM3.out
            rw [he] at hm4
            simp only [Bool.false_eq_true, if_false] at hm4
            have HM4 := Lib.hid hm4
            have HC := Lib.hid hcall
            clear hcall hm4 he HM3
            refine HC.out.mono ?_
            rintro e w7 ⟨rfl, rfl⟩
            go_wp2_with fail
            have hlen9 : (acc2 ++ [m] ++ x.data.toList).length + (⟨#[10, 92, 32, 110, 111, 32, 101, 110, 100, 10]⟩ : ByteArray).size ≤ 140737488355328 := by
              have e9 : (⟨#[10, 92, 32, 110, 111, 32, 101, 110, 100, 10]⟩ : ByteArray).size = 10 := rfl
              have ex : x.data.toList.length = x.size := by simp
              rw [List.length_append, List.length_append, e9, ex]
              simp only [List.length_cons, List.length_nil]
              omega
            refine (writeString_any w.heap.size w.heap.size _ ⟨#[10, 92, 32, 110, 111, 32, 101, 110, 100, 10]⟩ _ hbl6 hlen9 (by omega)).mono ?_
            rintro e w8 ⟨rfl, hbl8, hk8⟩
            have HB8 := Lib.hid (HB6.out.trans hk8.1)
            clear hk8 hbl6
            go_wp2
            go_roundw
            case rel =>
              refine ⟨q + 1, _, by omega, by go_num, ?_, hbl8, HB8.out⟩
              unfold Hid
              rw [← HM4.out]
              simp [noEndF]
            case measure => simp [intOf]; omega
          · have hcall := hasEnd_any x w6 hsx
            rw [he] at hcall
            have hm4 := HM3.out
            rw [he] at hm4
            simp only [if_true] at hm4
            have HM4 := Lib.hid hm4
            have HC := Lib.hid hcall
            clear hcall hm4 he HM3
            refine HC.out.mono ?_
            rintro e w7 ⟨rfl, rfl⟩
            go_wp2
            go_roundw
            case rel =>
              refine ⟨q + 1, _, by omega, by go_num, ?_, hbl6, HB6.out⟩
              unfold Hid
              rw [← HM4.out]
              simp
            case measure => simp [intOf]; omega
        · have hm3 := hm2.out
          rw [List.drop_eq_nil_of_le (by omega)] at hm3
          have HM3 := Lib.hid hm3
          have HB4 := Lib.hid (HBel2.out.trans hb4)
          clear hm2 hm3 hb4
          go_wp2
          go_roundw
          case rel => exact ⟨k + 1, acc2, by omega, by go_num, HM3.out, hbl4, HB4.out⟩
          case measure => simp [intOf]; omega
    · have hm1 := hm.out
      rw [List.drop_eq_nil_of_le (by omega)] at hm1
      simp only [hunksF, List.flatMap_nil, List.append_nil] at hm1
      rw [hm1] at hbl
      clear hm hm1
      go_wp2_with fail
      refine (bstring_any w.heap.size w.heap.size _ _ hbl (by omega)).mono ?_
      rintro e w3 ⟨rfl, hk3⟩
      go_wp2
      go_ret
      exact ⟨rfl, hb.trans hk3.1⟩

end Go.Proofs.YtcbmkkndbeiknaaGreatDoor
