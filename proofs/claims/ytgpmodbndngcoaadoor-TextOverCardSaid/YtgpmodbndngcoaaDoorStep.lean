/- Steps of a difference in memory; the table of powers of ten; small functions over them. -/
import Derived.Test.YtgpmodbndngcoaaDoorMore
import Derived.Deep.QuietTactic
import Derived.BigQuiet
namespace Go.Proofs.YtgpmodbndngcoaaDoor
open Go.RowKit Go.Shelf

/-- a step: its mark and its line -/
structure St where
  m : UInt8
  x : ByteArray
instance : Inhabited St := ⟨⟨0, ByteArray.empty⟩⟩
theorem St.ext' {a b : St} (h1 : a.m = b.m) (h2 : a.x = b.x) : a = b := by cases a; cases b; simp_all
instance : DecidableEq St := fun a b => decidable_of_iff (a.m = b.m ∧ a.x = b.x) ⟨fun h => St.ext' h.1 h.2, fun h => by subst h; exact ⟨rfl, rfl⟩⟩

def St.cells (t : St) : List Value := [.int .u8 t.m.toNat, .string t.x]
def cellsS (l : List St) : List Value := l.flatMap St.cells

theorem cellsS_length (l : List St) : (cellsS l).length = l.length * 2 := by
  induction l with
  | nil => rfl
  | cons x l ih => simp [cellsS, St.cells] at ih ⊢; omega

theorem cellsS_append (l r : List St) : cellsS (l ++ r) = cellsS l ++ cellsS r := by simp [cellsS]

theorem cellsS_get : ∀ (l : List St) (i : Nat) (h : i < l.length), (cellsS l)[i * 2]? = some (.int .u8 l[i].m.toNat) ∧ (cellsS l)[i * 2 + 1]? = some (.string l[i].x)
  | [], _, h => by simp at h
  | x :: l, 0, _ => by simp [cellsS, St.cells]
  | x :: l, i + 1, h => by
    have ih := cellsS_get l i (by simpa using h)
    have e : ∀ j, (cellsS (x :: l))[j + 2]? = (cellsS l)[j]? := fun j => by
      show (St.cells x ++ cellsS l)[j + 2]? = _
      rw [List.getElem?_append_right (by simp [St.cells])]
      simp [St.cells]
    rw [show (i + 1) * 2 = i * 2 + 2 by omega, show i * 2 + 2 + 1 = i * 2 + 1 + 2 by omega, e, e]
    exact ih

theorem cellsS_one {l : List St} {u : Value} (h : u ∈ cellsS l) : u.oneCell' = true := by
  obtain ⟨x, _, hx⟩ := List.mem_flatMap.1 h
  simp [St.cells] at hx
  rcases hx with rfl | rfl <;> rfl

/-- the slice with address A reads as the steps l -/
def SSl (w : World) (B : Nat) (A : Option Addr) (l : List St) : Prop := Rd w B A (cellsS l)

theorem SSl.below {w w' : World} {B : Nat} {A : Option Addr} {l : List St} (h : SSl w B A l) (hb : Below B w w') : SSl w' B A l := Rd.below h hb
theorem SSl.more {w : World} {B B' : Nat} {A : Option Addr} {l : List St} (h : SSl w B A l) (hB : B ≤ B') : SSl w B' A l := Rd.more h hB

theorem SSl.at_ {w : World} {B : Nat} {A : Option Addr} {l : List St} (h : SSl w B A l) (i : Nat) (hi : i < l.length) :
    ∃ b off, A = some ⟨b, off, none⟩ ∧ b < B ∧ w.cell? ⟨b, off + i * 2, none⟩ = some (.int .u8 l[i].m.toNat) ∧ w.cell? ⟨b, off + i * 2 + 1, none⟩ = some (.string l[i].x) := by
  obtain ⟨b, off, e, hB, hc⟩ := h (by rw [cellsS_length]; omega)
  obtain ⟨h0, h1⟩ := cellsS_get l i hi
  exact ⟨b, off, e, hB, hc _ _ h0, by have := hc _ _ h1; rwa [← Nat.add_assoc] at this⟩

/-- a part of a slice of steps -/
theorem SSl.part {w : World} {B b off : Nat} {l : List St} (h : SSl w B (some ⟨b, off, none⟩) l) (i j : Nat) (hij : i ≤ j) (hj : j ≤ l.length) : SSl w B (some ⟨b, off + i * 2, none⟩) ((l.take j).drop i) := fun hl => by
  rw [cellsS_length] at hl
  have hlen : ((l.take j).drop i).length = j - i := by rw [List.length_drop, List.length_take]; omega
  obtain ⟨b', off', e, hB, hc⟩ := h (by rw [cellsS_length]; omega)
  injection e with e
  injection e with e1 e2
  subst e1 e2
  refine ⟨b, off + i * 2, rfl, hB, fun q u hu => ?_⟩
  rw [Nat.add_assoc]
  refine hc _ u ?_
  have hs : cellsS l = cellsS (l.take i) ++ (cellsS ((l.take j).drop i) ++ cellsS (l.drop j)) := by
    rw [← cellsS_append, ← cellsS_append]
    congr 1
    conv => lhs; rw [← List.take_append_drop i l]
    congr 1
    rw [List.drop_take]
    have : l.drop j = (l.drop i).drop (j - i) := by rw [List.drop_drop]; congr 1; omega
    rw [this, List.take_append_drop]
  rw [hs, List.getElem?_append_right (by rw [cellsS_length, List.length_take]; omega), cellsS_length, List.length_take, show i * 2 + q - min i l.length * 2 = q by omega]
  rw [List.getElem?_append_left (List.getElem?_eq_some_iff.1 hu).1]
  exact hu

/-- the table of powers of ten stands -/
def Tab (w : World) : Prop := Lib.TabIs Tryd.prog w "internal/strconv.uint64pow10" .u64 Lib.pow10Tab

theorem Tab.below {w w' : World} (h : Tab w) (hb : Below w.heap.size w w') : Tab w' := by
  unfold Tab Lib.TabIs World.var? at h ⊢
  cases hg : Tryd.prog.globalNamed "internal/strconv.uint64pow10" with
  | none => rw [hg] at h; simp at h
  | some g =>
    rw [hg] at h
    simp only [Option.bind_some] at h ⊢
    have hlt : g < w.heap.size := by
      rcases Nat.lt_or_ge g w.heap.size with h' | h'
      · exact h'
      · rw [Array.getElem?_eq_none h'] at h; simp at h
    rw [hb.block g hlt]
    exact h

/-- whether a line has its line feed -/
def hasEndF (x : ByteArray) : Bool := Lib.hasSuffix x.data.toList [10]

set_option maxHeartbeats 400000 in
theorem hasEnd_any (x : ByteArray) (w : World) (hs : x.size ≤ 8000000) :
    Calls Tryd.prog 107 #[.string x] w fun e w' => e = .returned (.bool (hasEndF x)) ∧ w' = w := by
  have h := Tryd.strings_HasSuffix x ⟨#[10]⟩ w (by omega)
  have e : Lib.hasSuffix x.data.toList (ByteArray.mk #[10]).data.toList = hasEndF x := rfl
  rw [e] at h
  generalize hasEndF x = b at *
  have H := Lib.hid h
  clear h e
  go_enter Tryd.func107, Tryd.ntmps107
  go_wp2_with (go_at_call 135; refine H.out.mono ?_; rintro e w' ⟨rfl, rfl⟩)
  go_ret
  exact ⟨rfl, rfl⟩

/-- how many of a difference's lines are lines of a, and of b -/
def sideA : List St → Nat
  | [] => 0
  | t :: l => (if t.m = 43 then 0 else 1) + sideA l
def sideB : List St → Nat
  | [] => 0
  | t :: l => (if t.m = 45 then 0 else 1) + sideB l

theorem sideA_take (l : List St) (k : Nat) (h : k < l.length) : sideA (l.take (k + 1)) = sideA (l.take k) + (if l[k].m = 43 then 0 else 1) := by
  induction l generalizing k with
  | nil => simp at h
  | cons x l ih =>
    cases k with
    | zero => simp [sideA]
    | succ k => simp only [List.take_succ_cons, sideA, List.getElem_cons_succ, ih k (by simpa using h)]; omega
theorem sideB_take (l : List St) (k : Nat) (h : k < l.length) : sideB (l.take (k + 1)) = sideB (l.take k) + (if l[k].m = 45 then 0 else 1) := by
  induction l generalizing k with
  | nil => simp at h
  | cons x l ih =>
    cases k with
    | zero => simp [sideB]
    | succ k => simp only [List.take_succ_cons, sideB, List.getElem_cons_succ, ih k (by simpa using h)]; omega
theorem sideA_le (l : List St) : sideA l ≤ l.length := by
  induction l with
  | nil => simp [sideA]
  | cons x l ih => simp only [sideA, List.length_cons]; split <;> omega
theorem sideB_le (l : List St) : sideB l ≤ l.length := by
  induction l with
  | nil => simp [sideB]
  | cons x l ih => simp only [sideB, List.length_cons]; split <;> omega

theorem mark_eq (a b : UInt8) : ((a.toNat : Int) == (b.toNat : Int)) = decide (a = b) := by
  by_cases h : a = b
  · subst h; simp
  · have : a.toNat ≠ b.toNat := fun e => h (UInt8.toNat_inj.1 e)
    simp [h]; omega

set_option maxHeartbeats 1000000 in
set_option maxRecDepth 100000 in
theorem sides_any (A : Option Addr) (c : Nat) (l : List St) (w : World) (hl : l.length ≤ 1000000) (h : SSl w w.heap.size A l) :
    Calls Tryd.prog 104 #[.slice A l.length c] w fun e w' => e = .returned (.tuple #[.int .i64 (sideA l), .int .i64 (sideB l)]) ∧ Below w.heap.size w w' := by
  go_enter Tryd.func104, Tryd.ntmps104
  go_wp2
  go_loopw [2, 3, 8] (fun a b i wr => ∃ k : Nat, k ≤ l.length ∧ i = .int .i64 k ∧ a = .int .i64 (sideA (l.take k)) ∧ b = .int .i64 (sideB (l.take k)) ∧ Below w.heap.size w wr) (fun _ _ i _ => l.length - (intOf i).toNat)
  case atStart => exact ⟨0, Nat.zero_le _, rfl, by simp [sideA], by simp [sideB], Below.refl _ _⟩
  case round =>
    obtain ⟨k, hk, rfl, rfl, rfl, hb⟩ := hrel
    have ha := sideA_le (l.take k)
    have hbb := sideB_le (l.take k)
    have htk : (l.take k).length ≤ 1000000 := by rw [List.length_take]; omega
    by_cases hlt : k < l.length
    · obtain ⟨b, off, rfl, hB, c0, c1⟩ := (h.below hb).at_ k hlt
      have sa := sideA_take l k hlt
      have sb := sideB_take l k hlt
      generalize sideA (l.take k) = a at *
      generalize sideB (l.take k) = bb at *
      generalize l[k].m = m at *
      have SA := Lib.hid sa
      have SB := Lib.hid sb
      have e1 := mark_eq m 43
      have e2 := mark_eq m 45
      clear sa sb h
      have ha : a ≤ 1000000 := by omega
      have hbb : bb ≤ 1000000 := by omega
      by_cases q1 : m = 43
      · subst q1
        go_wp2
        go_roundw
        case rel => exact ⟨k + 1, by omega, by go_num, by rw [SA.out]; simp, by rw [SB.out]; go_num, hb.alloc hb.size _⟩
        case measure => simp [intOf]; omega
      · by_cases q2 : m = 45
        · subst q2
          go_wp2
          go_roundw
          case rel => exact ⟨k + 1, by omega, by go_num, by rw [SA.out]; go_num, by rw [SB.out]; simp, hb.alloc hb.size _⟩
          case measure => simp [intOf]; omega
        · have q1' : ((m.toNat : Int) != 43) = true := by have := e1; simp [q1] at this ⊢; omega
          have q2' : ((m.toNat : Int) != 45) = true := by have := e2; simp [q2] at this ⊢; omega
          have Q1 := Lib.hid q1
          have Q2 := Lib.hid q2
          clear q1 q2 e1 e2
          go_wp2
          go_roundw
          case rel => exact ⟨k + 1, by omega, by go_num, by rw [SA.out, if_neg Q1.out]; go_num, by rw [SB.out, if_neg Q2.out]; go_num, hb.alloc hb.size _⟩
          case measure => simp [intOf]; omega
    · have hkl : k = l.length := by omega
      rw [hkl, List.take_length] at *
      clear h
      go_wp2
      go_ret2
      exact ⟨rfl, hb⟩

end Go.Proofs.YtgpmodbndngcoaaDoor
