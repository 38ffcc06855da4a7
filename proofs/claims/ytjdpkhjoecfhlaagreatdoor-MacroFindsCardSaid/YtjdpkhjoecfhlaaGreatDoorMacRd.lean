/- Macro: isOneOf, asked for one word. Macro: the program's readParams. Macro, plain: what a definition is; the words of a directive that are one of some signs' texts are signs, and none is empty. Macro: the program's readParams, whole. -/
import Derived.Test.YtjdpkhjoecfhlaaGreatDoorDirK
import Derived.Maps.AppendAt
import Derived.Test.YtjdpkhjoecfhlaaGreatDoorDirN
import Derived.Test.YtjdpkhjoecfhlaaGreatDoorLexStrip
import Derived.BigRegion
import Derived.Deep.DeepCutAuto

namespace Go.Proofs.YtjdpkhjoecfhlaaGreatDoor
open Go.RowKit Go.Maps Go.Shelf

/-- is a token a sign or key of a text? -/
def oneOf (k : Nat) (x y : ByteArray) : Bool := (k == 6 || k == 2) && x.data.toList == y.data.toList
theorem containsS_one (x y : ByteArray) : Lib.containsS [y] x = (x.data.toList == y.data.toList) := by
  have h := Lib.containsS_iff [y] x
  cases e : Lib.containsS [y] x with
  | true =>
    have : x = y := by simpa using h.1 e
    subst this
    simp
  | false =>
    have hne : ¬ x = y := fun g => by
      rw [h.2 (by rw [g]; simp)] at e
      cases e
    symm
    rw [beq_eq_false_iff_ne]
    exact fun g => hne (ByteArray.ext (Array.toList_inj.1 g))

set_option maxHeartbeats 4000000 in
set_option maxRecDepth 100000 in
theorem isOneOf_any (k : Nat) (a : Int) (b x y : ByteArray) (g c : Nat) (w : World) (hg : g < w.heap.size) (hc : w.cell? ⟨g, 0, none⟩ = some (.string y)) :
    Calls Tryz.prog 102 #[.agg #[.int .i64 k, .string b, .string x, .int .i64 a], .slice (some ⟨g, 0, none⟩) 1 c] w fun e w' => e = .returned (.bool (oneOf k x y)) ∧ Below w.heap.size w w' := by
  have hb1 : Below w.heap.size w (w.alloc (.cells #[.int .i64 k, .string b, .string x, .int .i64 a] 29)) := (Below.refl _ _).alloc (Nat.le_refl _) _
  have CO := Tryz.slices_Contains_string g 0 1 c [y] x (w.alloc (.cells #[.int .i64 k, .string b, .string x, .int .i64 a] 29)) (by simp) (by decide) (fun j hj => by
    obtain rfl : j = 0 := by simpa using hj
    exact (hb1.cell (p := ⟨g, 0, none⟩) hg).trans hc)
  rw [show ([y] : List ByteArray).take 1 = [y] from rfl, containsS_one] at CO
  obtain ⟨o, ho⟩ : ∃ o, o = (x.data.toList == y.data.toList) := ⟨_, rfl⟩
  rw [← ho] at CO
  have HCO := Lib.hid CO
  have HB1 := Lib.hid hb1
  clear CO hb1 hc hg
  by_cases h6 : k = 6
  · subst h6
    have hk : Hid (oneOf 6 x y = o) := by unfold Hid oneOf; rw [← ho]; rfl
    clear ho
    go_enter Tryz.func102, Tryz.ntmps102
    go_wp2_with fail
    refine HCO.out.mono ?_
    rintro e w2 ⟨rfl, rfl⟩
    go_wp2
    go_ret
    exact ⟨by rw [hk.out]; rfl, HB1.out⟩
  · by_cases h2 : k = 2
    · subst h2
      have hk : Hid (oneOf 2 x y = o) := by unfold Hid oneOf; rw [← ho]; rfl
      clear ho
      go_enter Tryz.func102, Tryz.ntmps102
      go_wp2_with fail
      refine HCO.out.mono ?_
      rintro e w2 ⟨rfl, rfl⟩
      go_wp2
      go_ret
      exact ⟨by rw [hk.out]; rfl, HB1.out⟩
    · have p6 : ¬ (k : Int) = 6 := by omega
      have p2 : ¬ (k : Int) = 2 := by omega
      have p6' : ((k : Int) == 6) = false := by simpa using p6
      have p2' : ((k : Int) == 2) = false := by simpa using p2
      have hk : Hid (oneOf k x y = false) := by unfold Hid oneOf; simp [h6, h2]
      clear h6 h2
      go_enter Tryz.func102, Tryz.ntmps102
      go_wp2
      go_ret
      exact ⟨by rw [hk.out]; rfl, HB1.out⟩

end Go.Proofs.YtjdpkhjoecfhlaaGreatDoor

namespace Go.Proofs.YtjdpkhjoecfhlaaGreatDoor
open Go.RowKit Go.Maps Go.Shelf

def dotsB : ByteArray := ⟨#[46, 46, 46]⟩
def closeB : ByteArray := ⟨#[41]⟩
def commaB : ByteArray := ⟨#[44]⟩
/-- parameters, two words for each -/
def parG : List ByteArray → List Tk → Option (List ByteArray × List Tk)
  | acc, p :: q :: r =>
    if p.k = 1 ∨ oneOf p.k p.x dotsB = true then
      if oneOf q.k q.x closeB = true then some (acc ++ [p.x], r)
      else if oneOf p.k p.x dotsB = true ∨ ¬ oneOf q.k q.x commaB = true then none
      else parG (acc ++ [p.x]) r
    else none
  | _, _ => none
def parL : List Tk → Option (List ByteArray × List Tk)
  | [] => none
  | t :: r => if oneOf t.k t.x closeB = true then some ([], r) else parG [] (t :: r)

theorem infoStrM : (Tryz.prog.info? 9).map (fun i => (i.zero, i.size, i.bytes)) = some (some (.string ⟨#[]⟩), 1, 16) := by kernel_rfl

/-- words in memory, from a place of a block on -/
def WAt (w : World) (g o : Nat) (l : List Tk) : Prop := ∀ i (h : i < l.length), w.cell? ⟨g, o + i * 4, none⟩ = some (.int .i64 l[i].k) ∧ w.cell? ⟨g, o + i * 4 + 1, none⟩ = some (.string l[i].b) ∧ w.cell? ⟨g, o + i * 4 + 2, none⟩ = some (.string l[i].x) ∧ w.cell? ⟨g, o + i * 4 + 3, none⟩ = some (.int .i64 l[i].a)
/-- what readParams gives: the place may stay where the capacity ends, so it is any -/
def ParP (g B : Nat) (o : Option (List ByteArray × List Tk)) (e : Ending) (w' : World) : Prop :=
  match o with
  | none => e = .returned (.tuple #[.slice none 0 0, .slice none 0 0, .bool false])
  | some (ps, r) => ∃ v o' c', e = .returned (.tuple #[v, .slice (some ⟨g, o', none⟩) r.length c', .bool true]) ∧ w'.ownsRow B 9 1 v ps.length (ps.map Value.string) ∧ r.length ≤ c' ∧ WAt w' g o' r

set_option maxHeartbeats 8000000 in
set_option maxRecDepth 100000 in
/-- no word, or the closing one first -/
theorem readParams_short (g o c : Nat) (l : List Tk) (w : World) (hg : g < w.heap.size) (hl : l.length ≤ 30000) (hlc : l.length ≤ c) (hR : WAt w g o l) (hs : ∀ t r, l = t :: r → oneOf t.k t.x closeB = true) :
    Calls Tryz.prog 195 #[.slice (some ⟨g, o, none⟩) l.length c] w fun e w' => Below w.heap.size w w' ∧ ParP g w.heap.size (parL l) e w' := by
  cases l with
  | nil =>
    clear hR hl hlc hg hs
    show Calls _ _ _ _ fun e w' => Below w.heap.size w w' ∧ e = .returned (.tuple #[.slice none 0 0, .slice none 0 0, .bool false])
    go_enter Tryz.func195, Tryz.ntmps195
    go_wp2
    go_loopw [0, 2] (fun v0 v2 wr => v0 = .slice (some ⟨g, o, none⟩) 0 c ∧ wr = w) (fun _ _ _ => 0)
    case atStart => exact ⟨rfl, rfl⟩
    case round =>
      obtain ⟨rfl, rfl⟩ := hrel
      go_wp2
      go_ret3
      exact ⟨Below.refl _ _, rfl⟩
  | cons t r =>
    have ho := hs t r rfl
    have hP : parL (t :: r) = some ([], r) := by simp [parL, ho]
    rw [hP]
    obtain ⟨tk, tb, tx, ta⟩ := t
    obtain ⟨c0, c1, c2, c3⟩ := hR 0 (by simp)
    simp only [List.getElem_cons_zero, Nat.zero_mul, Nat.add_zero] at c0 c1 c2 c3
    obtain ⟨n, hn⟩ : ∃ n, n = (⟨tk, tb, tx, ta⟩ :: r : List Tk).length := ⟨_, rfl⟩
    have hnr : r.length = n - 1 := by rw [hn, List.length_cons]; omega
    rw [← hn] at hl hlc ⊢
    have hn1 : 1 ≤ n := by rw [hn, List.length_cons]; omega
    have q0 : (0 : Int) < (n : Int) := by omega
    have q1 : (1 : Int) ≤ (n : Int) := by omega
    have q2 : 1 ≤ c := by omega
    have I1 := isOneOf_any tk ta tb tx closeB w.heap.size 1 (w.alloc (.cells #[.string closeB] 9)) (by simp) (Blk.cell (Blk.new w _ _) 0)
    rw [ho] at I1
    have HI1 := Lib.hid I1
    have HB1 := Lib.hid ((Below.refl w.heap.size w).alloc (Nat.le_refl _) (.cells #[.string closeB] 9))
    have HR := Lib.hid hR
    have HN := Lib.hid hnr
    have HG := Lib.hid hg
    have HLC := Lib.hid hlc
    clear I1 ho hR hn hs hP hnr hg
    go_enter Tryz.func195, Tryz.ntmps195
    go_wp2_with fail
    refine HI1.out.mono ?_
    rintro e w1 ⟨rfl, hb1⟩
    have HB2 := Lib.hid (HB1.out.trans (hb1.mono HB1.out.size))
    clear hb1 HB1 HI1
    have keep : ∀ W, Below w.heap.size w W → WAt W g o (⟨tk, tb, tx, ta⟩ :: r) := fun W hW i h => by
      obtain ⟨d0, d1, d2, d3⟩ := HR.out i h
      exact ⟨(hW.cell (p := ⟨g, o + i * 4, none⟩) HG.out).trans d0, (hW.cell (p := ⟨g, o + i * 4 + 1, none⟩) HG.out).trans d1, (hW.cell (p := ⟨g, o + i * 4 + 2, none⟩) HG.out).trans d2, (hW.cell (p := ⟨g, o + i * 4 + 3, none⟩) HG.out).trans d3⟩
    have keep2 : ∀ W, Below w.heap.size w W → WAt W g (o + 4) r := fun W hW i h => by
      have := keep W hW (i + 1) (by rw [List.length_cons]; omega)
      rw [show o + (i + 1) * 4 = o + 4 + i * 4 by omega] at this
      simpa using this
    have HK2 := Lib.hid keep2
    clear keep keep2
    by_cases hc1 : c = 1
    · subst hc1
      go_wp2_with fail
      go_region
      all_goals go_wp2
      all_goals go_ret3
      all_goals
        have hr0 : r = [] := List.eq_nil_of_length_eq_zero (by have := HN.out; omega)
        subst hr0
        have hn0 : n - 1 = 0 := by have := HN.out; simpa using this.symm
        refine ⟨HB2.out.drew, .slice none 0 0, o, 0, ?_, World.ownsRow_nil _ _ _ _, Nat.zero_le _, fun i h => absurd h (Nat.not_lt_zero _)⟩
        first | rfl | (rw [hn0]; rfl)
    · have q3 : 2 ≤ c := by omega
      go_wp2_with fail
      go_region
      all_goals go_wp2
      all_goals go_ret3
      all_goals
        refine ⟨HB2.out.drew, .slice none 0 0, o + 4, c - 1, ?_, World.ownsRow_nil _ _ _ _, by have := HN.out; have := HLC.out; omega, HK2.out _ HB2.out.drew⟩
        rw [HN.out]
        rfl

end Go.Proofs.YtjdpkhjoecfhlaaGreatDoor

namespace Go.Proofs.YtjdpkhjoecfhlaaGreatDoor
open Go.RowKit Go.Maps Go.Shelf

def openB : ByteArray := ⟨#[40]⟩
def defineBs : ByteArray := ⟨#[100, 101, 102, 105, 110, 101]⟩
def undefBs : ByteArray := ⟨#[117, 110, 100, 101, 102]⟩

theorem signN_40 (l : List UInt8) : signN (40 :: l) = 1 := by
  unfold signN signsL
  simp [signG, List.isPrefixOf]
theorem signN_41 (l : List UInt8) : signN (41 :: l) = 1 := by
  unfold signN signsL
  simp [signG, List.isPrefixOf]
theorem signN_44 (l : List UInt8) : signN (44 :: l) = 1 := by
  unfold signN signsL
  simp [signG, List.isPrefixOf]
theorem signN_dots (l : List UInt8) : signN (46 :: 46 :: 46 :: l) = 3 := by
  unfold signN signsL
  simp [signG, List.isPrefixOf]

/-- a token that has one of these texts is a sign -/
theorem tokD_sign (l : List UInt8) (h : l.take (tokD l).2 = [40] ∨ l.take (tokD l).2 = [41] ∨ l.take (tokD l).2 = [44] ∨ l.take (tokD l).2 = [46, 46, 46]) : (tokD l).1 = 6 := by
  cases l with
  | nil => simp at h
  | cons c m =>
    have hz := tokD_le (c :: m) (by simp)
    generalize hn : (tokD (c :: m)).2 = n at *
    obtain ⟨k, rfl⟩ : ∃ k, n = k + 1 := ⟨n - 1, by omega⟩
    rw [List.take_succ_cons] at h
    have one : ∀ d : UInt8, (d = 40 ∨ d = 41 ∨ d = 44) → c = d → (tokD (c :: m)).1 = 6 := fun d hd e => by
      subst e
      unfold tokD
      rw [if_neg (by simp; rcases hd with rfl | rfl | rfl <;> decide)]
      rw [tokX false c m (fun g => by cases g.1) (by rcases hd with rfl | rfl | rfl <;> decide) (by rw [begNum_d]; rcases hd with rfl | rfl | rfl <;> simp [isDig]) (by rcases hd with rfl | rfl | rfl <;> decide) (by rcases hd with rfl | rfl | rfl <;> decide)]
      rw [if_pos (by rcases hd with rfl | rfl | rfl <;> simp [signN_40, signN_41, signN_44])]
    rcases h with h | h | h | h
    · exact one 40 (.inl rfl) (by injection h)
    · exact one 41 (.inr (.inl rfl)) (by injection h)
    · exact one 44 (.inr (.inr rfl)) (by injection h)
    · injection h with h1 h2
      subst h1
      obtain ⟨m', rfl⟩ : ∃ m', m = 46 :: 46 :: m' := by
        match m, k, h2 with
        | [], k, h2 => simp at h2
        | _ :: _, 0, h2 => simp at h2
        | [_], _ + 1, h2 => simp at h2
        | _ :: _ :: _, 1, h2 => simp at h2
        | a :: b :: m', k + 2, h2 =>
          simp at h2
          exact ⟨m', by rw [h2.1, h2.2.1]⟩
      unfold tokD
      rw [if_neg (by simp), tokX false 46 (46 :: 46 :: m') (fun g => by cases g.1) (by decide) (by simp [begNum, isDig]) (by decide) (by decide), signN_dots]
      rfl
/-- what is told of each word -/
theorem dir_signs : ∀ (n a : Nat) (l : List UInt8), l.length < n → ∀ t ∈ (dirR a l).dropLast, ((t.x.data.toList = [40] ∨ t.x.data.toList = [41] ∨ t.x.data.toList = [44] ∨ t.x.data.toList = [46, 46, 46]) → t.k = 6) ∧ t.x.data.toList ≠ []
  | 0, _, _, h => absurd h (Nat.not_lt_zero _)
  | n + 1, a, l, h => by
    intro t ht
    rw [dirR_step] at ht
    split at ht
    · simp at ht
    · rename_i g
      have hl := dir_less l g
      have hne : dirR (a + (skipF true l).1 + (tokD (l.drop (skipF true l).1)).2) ((l.drop (skipF true l).1).drop (tokD (l.drop (skipF true l).1)).2) ≠ [] := by
        obtain ⟨I, e, h1, _⟩ := dir_split _ (a + (skipF true l).1 + (tokD (l.drop (skipF true l).1)).2) ((l.drop (skipF true l).1).drop (tokD (l.drop (skipF true l).1)).2) (Nat.lt_succ_self _)
        rw [h1]
        simp
      rw [List.dropLast_cons_of_ne_nil hne] at ht
      rcases List.mem_cons.1 ht with rfl | ht
      · have e : (dirTk a l).x.data.toList = (l.drop (skipF true l).1).take (tokD (l.drop (skipF true l).1)).2 := by simp [dirTk]
        refine ⟨fun hx => ?_, fun hx => ?_⟩
        · rw [e] at hx
          exact tokD_sign _ hx
        · rw [e] at hx
          have hm : l.drop (skipF true l).1 ≠ [] := List.ne_nil_of_length_pos (by rw [List.length_drop]; omega)
          have hz := tokD_le _ hm
          have := congrArg List.length hx
          rw [List.length_take, List.length_nil] at this
          omega
      · exact dir_signs n _ _ (Nat.lt_of_lt_of_le hl (Nat.le_of_lt_succ h)) t ht
/-- what a definition's words are -/
structure WordOk (t : Tk) : Prop where
  sign : (t.x.data.toList = [40] ∨ t.x.data.toList = [41] ∨ t.x.data.toList = [44] ∨ t.x.data.toList = [46, 46, 46]) → t.k = 6
  full : t.x.data.toList ≠ []
  kind : t.k ≤ 8 ∧ t.k ≠ 7 ∧ t.k ≠ 0
theorem words_good (x : ByteArray) : ∀ t ∈ wordsL x, WordOk t := fun t ht => by
  have h1 := dir_signs _ 0 (x.data.toList.drop 1) (Nat.lt_succ_self _) t ht
  have h2 := dir_kinds _ 0 (x.data.toList.drop 1) (Nat.lt_succ_self _) t (List.dropLast_subset _ ht)
  refine ⟨h1.1, h1.2, h2.1, h2.2.1, ?_⟩
  rw [words_from] at ht
  unfold wFrom at ht
  have := (List.mem_filter.1 ht).2
  unfold nz at this
  simpa using this
theorem keep_words (l : List Tk) (h : ∀ t ∈ l, WordOk t) : keepT l = l := by
  unfold keepT
  refine List.filter_eq_self.2 fun t ht => ?_
  have := (h t ht).kind
  unfold keepK
  simp [this.2.1, this.2.2]
theorem oneOf_text (t : Tk) (h : WordOk t) (y : ByteArray) (hy : y.data.toList = [40] ∨ y.data.toList = [41] ∨ y.data.toList = [44] ∨ y.data.toList = [46, 46, 46]) : oneOf t.k t.x y = (t.x.data.toList == y.data.toList) := by
  unfold oneOf
  cases e : (t.x.data.toList == y.data.toList) with
  | false => simp
  | true =>
    have e2 : t.x.data.toList = y.data.toList := by simpa using e
    rw [h.sign (by rw [e2]; exact hy)]
    rfl

/-- parameters, whether there are any, and the words of the body -/
def defP : List Tk → Option (List ByteArray × Bool × List Tk)
  | [] => some ([], false, [])
  | t :: r => if oneOf t.k t.x openB = true ∧ t.b.data.toList = [] then (parL r).map fun p => (p.1, true, p.2) else some ([], false, t :: r)
/-- a definition -/
structure Dfn where
  nm : ByteArray
  ps : List ByteArray
  fn : Bool
  bw : List ByteArray
  gone : Bool
def blankB : ByteArray := ⟨#[32]⟩
def dfnW (gone : Bool) : List Tk → Option Dfn
  | _ :: w1 :: r => if w1.k = 1 then (if gone = true then some ⟨w1.x, [], false, [], true⟩ else (defP r).map fun p => ⟨w1.x, p.1, p.2.1, p.2.2.map Tk.x, false⟩) else none
  | _ => none
def dfnB (k : Int) (x : ByteArray) : Option Dfn := if kindB k x = defineBs then dfnW false (wordsL x) else if kindB k x = undefBs then dfnW true (wordsL x) else none
theorem kindB_line (k : Int) (x : ByteArray) (h : kindB k x = defineBs ∨ kindB k x = undefBs) : k = 7 ∧ x.data.toList.head? = some 35 := by
  unfold kindB at h
  by_cases hk : k = 7
  · rw [if_pos hk] at h
    by_cases hd : x.data.toList.head? = some 35
    · exact ⟨hk, hd⟩
    · rw [if_neg hd] at h
      exact absurd h (by decide)
  · rw [if_neg hk] at h
    exact absurd h (by decide)

end Go.Proofs.YtjdpkhjoecfhlaaGreatDoor

namespace Go.Proofs.YtjdpkhjoecfhlaaGreatDoor
open Go.RowKit Go.Maps Go.Shelf

set_option maxHeartbeats 8000000 in
set_option maxRecDepth 100000 in
theorem readParams_any (g o c : Nat) (l : List Tk) (w : World) (hg : g < w.heap.size) (hl : l.length ≤ 30000) (hlc : l.length ≤ c) (hR : WAt w g o l) :
    Calls Tryz.prog 195 #[.slice (some ⟨g, o, none⟩) l.length c] w fun e w' => Below w.heap.size w w' ∧ ParP g w.heap.size (parL l) e w' := by
  by_cases hs : ∀ t r, l = t :: r → oneOf t.k t.x closeB = true
  · exact readParams_short g o c l w hg hl hlc hR hs
  cases l with
  | nil => exact absurd (fun t r h => by cases h) hs
  | cons t0 r0 =>
  have ho : oneOf t0.k t0.x closeB = false := by
    cases e : oneOf t0.k t0.x closeB with
    | false => rfl
    | true => exact absurd (fun t r h => by injection h with h1 h2; rw [← h1]; exact e) hs
  have hP : parL (t0 :: r0) = parG [] (t0 :: r0) := by simp [parL, ho]
  rw [hP]
  obtain ⟨l, hl0⟩ : ∃ l, l = t0 :: r0 := ⟨_, rfl⟩
  obtain ⟨c0, c1, c2, c3⟩ := hR 0 (by simp)
  simp only [List.getElem_cons_zero, Nat.zero_mul, Nat.add_zero] at c0 c1 c2 c3
  obtain ⟨tk, tb, tx, ta⟩ := t0
  simp only at c0 c1 c2 c3 ho
  rw [← hl0] at hR hl hlc ⊢
  have q0 : (0 : Int) < (l.length : Int) := by rw [hl0, List.length_cons]; omega
  obtain ⟨i0, hi, hz0, hz1, hz2⟩ := info_parts infoStrM
  have I1 := isOneOf_any tk ta tb tx closeB w.heap.size 1 (w.alloc (.cells #[.string closeB] 9)) (by simp) (Blk.cell (Blk.new w _ _) 0)
  rw [ho] at I1
  have HI1 := Lib.hid I1
  have HB1 := Lib.hid ((Below.refl w.heap.size w).alloc (Nat.le_refl _) (.cells #[.string closeB] 9))
  have HR := Lib.hid hR
  have HG := Lib.hid hg
  have HLC := Lib.hid hlc
  have HL := Lib.hid hl
  clear I1 ho hR hl0 hs hP hg hlc hl
  go_enter Tryz.func195, Tryz.ntmps195
  go_wp2_with fail
  refine HI1.out.mono ?_
  rintro e w1 ⟨rfl, hb1⟩
  have hb2 := HB1.out.trans (hb1.mono HB1.out.size)
  have HB2 := Lib.hid hb2
  have HR2 : Hid (WAt w1 g o l) := fun i h => by
    obtain ⟨d0, d1, d2, d3⟩ := HR.out i h
    exact ⟨(hb2.cell (p := ⟨g, o + i * 4, none⟩) HG.out).trans d0, (hb2.cell (p := ⟨g, o + i * 4 + 1, none⟩) HG.out).trans d1, (hb2.cell (p := ⟨g, o + i * 4 + 2, none⟩) HG.out).trans d2, (hb2.cell (p := ⟨g, o + i * 4 + 3, none⟩) HG.out).trans d3⟩
  clear hb1 hb2 HB1 HI1 HR c0 c1 c2 c3
  go_wp2_with fail
  go_loopw [0, 2] (fun v0 v2 wr => ∃ (acc : List ByteArray) (o' c' : Nat) (rest : List Tk), v0 = .slice (some ⟨g, o', none⟩) rest.length c' ∧ rest.length ≤ c' ∧ Hid (acc.length + rest.length ≤ 30000) ∧ Hid (wr.ownsRow w.heap.size 9 1 v2 acc.length (acc.map Value.string)) ∧ Hid (WAt wr g o' rest) ∧ Hid (parG acc rest = parG [] l) ∧ Hid (Below w.heap.size w wr) ∧ Hid (∃ A c, v2 = .slice A acc.length c)) (fun v0 _ _ => match v0 with | .slice _ n _ => n | _ => 0)
  case atStart => exact ⟨[], o, c, l, rfl, HLC.out, by have := HL.out; unfold Hid; simpa using this, World.ownsRow_nil _ _ _ _, HR2.out, rfl, HB2.out, ⟨none, 0, rfl⟩⟩
  case round =>
    clear HR2 HB2 q0
    obtain ⟨acc, o', c', rest, rfl, hc, hal, hO, hW, hP, hB, hform⟩ := hrel
    obtain ⟨A, ca, rfl⟩ := hform.out
    cases rest with
    | nil =>
      have hn := Lib.hid (hP.out.symm.trans (show parG acc [] = none by simp [parG]))
      clear hP hW
      go_wp2
      go_ret3
      exact ⟨hB.out, by rw [hn.out]; rfl⟩
    | cons p rest =>
      cases rest with
      | nil =>
        have hn := Lib.hid (hP.out.symm.trans (show parG acc [p] = none by simp [parG]))
        clear hP hW
        go_wp2
        go_ret3
        exact ⟨hB.out, by rw [hn.out]; rfl⟩
      | cons q r =>
        obtain ⟨c0, c1, c2, c3⟩ := hW.out 0 (by simp)
        obtain ⟨d0, d1, d2, d3⟩ := hW.out 1 (by simp)
        simp only [List.getElem_cons_zero, List.getElem_cons_succ, Nat.zero_mul, Nat.one_mul, Nat.add_zero] at c0 c1 c2 c3 d0 d1 d2 d3
        obtain ⟨n, hn⟩ : ∃ n, n = (p :: q :: r : List Tk).length := ⟨_, rfl⟩
        have hnr : r.length = n - 2 := by rw [hn, List.length_cons, List.length_cons]; omega
        rw [← hn] at hc hal ⊢
        have hn2 : 2 ≤ n := by rw [hn, List.length_cons, List.length_cons]; omega
        obtain ⟨pk, pb, px, pa⟩ := p
        obtain ⟨qk, qb, qx, qa⟩ := q
        simp only at c0 c1 c2 c3 d0 d1 d2 d3
        have q2 : (2 : Int) ≤ (n : Int) := by omega
        have q1 : (1 : Int) < (n : Int) := by omega
        have q0 : (0 : Int) < (n : Int) := by omega
        have HN := Lib.hid hnr
        obtain ⟨o2, ho2⟩ : ∃ o2, o' + 4 = o2 := ⟨_, rfl⟩
        rw [ho2] at d0 d1 d2 d3
        have hgw : g < wr.heap.size := Nat.lt_of_lt_of_le HG.out hB.out.size
        have hba : Below wr.heap.size wr ((wr.alloc (.cells #[.int .i64 0, .string ⟨#[]⟩, .string ⟨#[]⟩, .int .i64 0] 29)).alloc (.cells #[.int .i64 0, .string ⟨#[]⟩, .string ⟨#[]⟩, .int .i64 0] 29)).drew := (((Below.refl _ _).alloc (Nat.le_refl _) _).alloc (by simp) _).drew
        have d0' := (hba.cell (p := ⟨g, o2, none⟩) hgw).trans d0
        have d1' := (hba.cell (p := ⟨g, o2 + 1, none⟩) hgw).trans d1
        have d2' := (hba.cell (p := ⟨g, o2 + 2, none⟩) hgw).trans d2
        have d3' := (hba.cell (p := ⟨g, o2 + 3, none⟩) hgw).trans d3
        have c0' := (hba.cell (p := ⟨g, o', none⟩) hgw).trans c0
        have c1' := (hba.cell (p := ⟨g, o' + 1, none⟩) hgw).trans c1
        have c2' := (hba.cell (p := ⟨g, o' + 2, none⟩) hgw).trans c2
        have c3' := (hba.cell (p := ⟨g, o' + 3, none⟩) hgw).trans c3
        clear hn hnr hba
        go_upto_region 5 with (fail)
        go_cut [0, 5, 6] from 20 to 57 (fun v0 v5 v6 wx => ∃ h5 h6, v0 = .slice (some ⟨g, o', none⟩) n c' ∧ v5 = .pointer (some ⟨h5, 0, none⟩) ∧ v6 = .pointer (some ⟨h6, 0, none⟩) ∧ wr.heap.size ≤ h5 ∧ wr.heap.size ≤ h6 ∧ Hid (Blk wx h5 29 #[.int .i64 pk, .string pb, .string px, .int .i64 pa]) ∧ Hid (Blk wx h6 29 #[.int .i64 qk, .string qb, .string qx, .int .i64 qa]) ∧ Hid (Below wr.heap.size wr wx))
        case first =>
          go_wp2_with fail
          go_region
          all_goals go_wp2_with fail
          all_goals go_meet
          · refine ⟨_, _, rfl, rfl, rfl, by omega, by omega, ?_, ?_, ?_⟩
            · exact Blk.drewN ((Blk.new wr _ _).alloc _) 1
            · have := Blk.new (wr.alloc (.cells #[.int .i64 pk, .string pb, .string px, .int .i64 pa] 29)) 29 #[.int .i64 qk, .string qb, .string qx, .int .i64 qa]
              rw [show (wr.alloc (.cells #[.int .i64 pk, .string pb, .string px, .int .i64 pa] 29)).heap.size = wr.heap.size + 1 by simp] at this
              exact Blk.drewN this 1
            · exact (((Below.refl _ _).alloc (Nat.le_refl _) _).alloc (by simp) _).drew
          · refine ⟨_, _, rfl, rfl, rfl, by omega, by omega, ?_, ?_, ?_⟩
            · have := Blk.new (wr.alloc (.cells #[.int .i64 qk, .string qb, .string qx, .int .i64 qa] 29)) 29 #[.int .i64 pk, .string pb, .string px, .int .i64 pa]
              rw [show (wr.alloc (.cells #[.int .i64 qk, .string qb, .string qx, .int .i64 qa] 29)).heap.size = wr.heap.size + 1 by simp] at this
              exact Blk.drewN this 1
            · exact Blk.drewN ((Blk.new wr _ _).alloc _) 1
            · exact (((Below.refl _ _).alloc (Nat.le_refl _) _).alloc (by simp) _).drew
        case rest =>
          obtain ⟨h5, h6, rfl, rfl, rfl, hh5, hh6, hB5, hB6, hbx⟩ := hcut
          clear c0 c1 c2 c3 d0 d1 d2 d3 c0' c1' c2' c3' d0' d1' d2' d3'
          obtain ⟨wz, hwz⟩ : ∃ x : World, x = wc := ⟨_, rfl⟩
          subst hwz
          have keep : WAt wz g o' (⟨pk, pb, px, pa⟩ :: ⟨qk, qb, qx, qa⟩ :: r) := fun i h => by
            obtain ⟨e0, e1, e2, e3⟩ := hW.out i h
            exact ⟨(hbx.out.cell (p := ⟨g, o' + i * 4, none⟩) hgw).trans e0, (hbx.out.cell (p := ⟨g, o' + i * 4 + 1, none⟩) hgw).trans e1, (hbx.out.cell (p := ⟨g, o' + i * 4 + 2, none⟩) hgw).trans e2, (hbx.out.cell (p := ⟨g, o' + i * 4 + 3, none⟩) hgw).trans e3⟩
          have keep2 : Hid (WAt wz g (o' + 8) r) := fun i h => by
            have := keep (i + 2) (by rw [List.length_cons, List.length_cons]; omega)
            rw [show o' + (i + 2) * 4 = o' + 8 + i * 4 by omega] at this
            simpa using this
          clear keep
          go_upto_region 5 with (fail)
          go_cut [0] (fun v0 wx => ∃ o3 c3, v0 = .slice (some ⟨g, o3, none⟩) r.length c3 ∧ r.length ≤ c3 ∧ Hid (WAt wz g o3 r) ∧ wx = wz)
          case first =>
            by_cases hc2 : c' = 2
            · have hr0 : r = [] := List.eq_nil_of_length_eq_zero (by have := HN.out; omega)
              have HR0 := Lib.hid hr0
              clear hr0
              subst hc2
              go_wp2_with fail
              all_goals go_meet
              all_goals exact ⟨o', 0, by first | rfl | (rw [HR0.out]; rfl) | rw [HN.out], by rw [HR0.out]; exact Nat.le_refl _, (by rw [HR0.out]; exact fun i h => absurd h (Nat.not_lt_zero _)), rfl⟩
            · have q3 : 3 ≤ c' := by omega
              go_wp2_with fail
              all_goals go_meet
              all_goals exact ⟨o' + 8, c' - 2, by rw [HN.out], by rw [HN.out]; omega, keep2.out, rfl⟩
          case rest =>
            obtain ⟨o3, c3, rfl, hc3, hW3, hwz⟩ := hcut
            rw [hwz]
            clear hwz keep2
            have HKW : Hid (∀ W, Below w.heap.size w W → WAt W g o3 r) := fun W hW i h => by
              have hwzB := hB.out.trans (hbx.out.mono hB.out.size)
              obtain ⟨e0, e1, e2, e3⟩ := hW3.out i h
              exact ⟨((hW.cell (p := ⟨g, o3 + i * 4, none⟩) HG.out).trans (hwzB.cell (p := ⟨g, o3 + i * 4, none⟩) HG.out).symm).trans e0, ((hW.cell (p := ⟨g, o3 + i * 4 + 1, none⟩) HG.out).trans (hwzB.cell (p := ⟨g, o3 + i * 4 + 1, none⟩) HG.out).symm).trans e1, ((hW.cell (p := ⟨g, o3 + i * 4 + 2, none⟩) HG.out).trans (hwzB.cell (p := ⟨g, o3 + i * 4 + 2, none⟩) HG.out).symm).trans e2, ((hW.cell (p := ⟨g, o3 + i * 4 + 3, none⟩) HG.out).trans (hwzB.cell (p := ⟨g, o3 + i * 4 + 3, none⟩) HG.out).symm).trans e3⟩
            have x0 := hB5.out.cell 0
            have x1 := hB5.out.cell 1
            have x2 := hB5.out.cell 2
            have x3 := hB5.out.cell 3
            have HI1 := Lib.hid (isOneOf_any pk pa pb px dotsB wz.heap.size 1 (wz.alloc (.cells #[.string dotsB] 9)) (by simp) (Blk.cell (Blk.new wz _ _) 0))
            have HBD : Hid (Below wz.heap.size wz (wz.alloc (.cells #[.string dotsB] 9))) := (Below.refl wz.heap.size wz).alloc (Nat.le_refl _) _
            obtain ⟨d, hd⟩ : ∃ d, d = oneOf pk px dotsB := ⟨_, rfl⟩
            rw [← hd] at HI1
            have HD := Lib.hid hd
            clear hd
            simp at x0 x1 x2 x3
            go_wp2_with fail
            refine HI1.out.mono ?_
            rintro e w2 ⟨rfl, hb2⟩
            have hb3 := HBD.out.trans (hb2.mono HBD.out.size)
            have HB3 := Lib.hid hb3
            have HB5 : Hid (Blk w2 h5 29 #[.int .i64 pk, .string pb, .string px, .int .i64 pa]) := hB5.out.below hb3 hB5.out.lt
            have HB6 : Hid (Blk w2 h6 29 #[.int .i64 qk, .string qb, .string qx, .int .i64 qa]) := hB6.out.below hb3 hB6.out.lt
            have hbz : Below wr.heap.size wr w2 := hbx.out.trans (hb3.mono hbx.out.size)
            have HBZ := Lib.hid hbz
            have HO2 : Hid (w2.ownsRow w.heap.size 9 1 (.slice A acc.length ca) acc.length (acc.map Value.string)) := own_belowD hO.out hbz
            have HLT : Hid (∀ q, (Value.slice A acc.length ca).ownBlock = some q → q < wr.heap.size) := fun q e => (hO.out.lt q e).2
            have y2 := HB5.out.cell 2
            simp at y2
            have hls := Lib.hid hal.out
            have hn30 : acc.length + 2 ≤ 30000 := by have := hal.out; omega
            have hbs : w.heap.size ≤ w2.heap.size := Nat.le_trans hB.out.size hbz.size
            clear hb2 hb3 hbz x0 x1 x2 x3 HI1 HBD HB3 hB5 hB6 hbx hO
            have app : ∀ (W w5 : World) (v' : Value), W = w2.alloc (.cells #[.string px] 9) → w5.ownsRow w.heap.size 9 1 v' (acc.length + 1) (acc.map Value.string ++ [Value.string px]) → W.grownBy w5 (Value.slice A acc.length ca).ownBlock → Hid (Blk w5 h6 29 #[.int .i64 qk, .string qb, .string qx, .int .i64 qa]) ∧ Hid (w5.ownsRow w.heap.size 9 1 v' (acc ++ [px]).length ((acc ++ [px]).map Value.string)) ∧ Hid (Below w.heap.size w w5) := fun W w5 v' e h1 h2 => by
              subst e
              refine ⟨?_, ?_, ?_⟩
              · exact Blk.kept (HB6.out.alloc _) h2 (fun e => by have := HLT.out _ e.symm; omega)
              · have e1 : (acc ++ [px]).length = acc.length + 1 := by simp
                have e2 : (acc ++ [px]).map Value.string = acc.map Value.string ++ [Value.string px] := by simp
                unfold Hid
                rw [e1, e2]
                exact h1
              · have hbb : Below w.heap.size w (w2.alloc (.cells #[.string px] 9)) := (hB.out.trans (HBZ.out.mono hB.out.size)).alloc hbs _
                refine hbb.trans ?_
                cases ho : (Value.slice A acc.length ca).ownBlock with
                | none => rw [ho] at h2; exact ⟨h2.os, h2.tape, h2.output, h2.size, fun i hi => h2.block i (by have := hbb.size; omega) (by simp)⟩
                | some q => rw [ho] at h2; exact below_grown h2 (HO2.out.lt q ho).1 hbb.size
            have HAPP := Lib.hid app
            clear app
            by_cases hk : pk = 1
            · subst hk
              have hd0 : d = false := by rw [HD.out]; unfold oneOf; simp
              subst hd0
              have y0 : w2.cell? ⟨h5, 0, none⟩ = some (.int .i64 1) := HB5.out.cell 0
              go_wp2_with (at_builtin; refine wpList_append_own_at _ rfl (.tmp 41) (.tmp 44) 59 rfl w.heap.size 9 i0 _ 1 16 Tryz.underlying59 hi hz0 hz1 hz2 rfl (by decide) _ acc.length (acc.map Value.string) rfl (HO2.out.alloc _) ⟨w2.heap.size, 0, none⟩ 1 1 [Value.string px] rfl rfl (cell_one_new _ _ _) (by simp [Value.oneCell']) (by unfold maxLen; omega) (by omega) (by simp; omega) ?_; intro v' w5 hown' hgr _ hat; obtain ⟨g5, cap5, rfl, hgb5, hglt5⟩ := hown'.form (by omega); obtain ⟨hb6, hO5, hB5⟩ := HAPP.out _ _ _ rfl hown' hgr; have z0 := hb6.out.cell 0; have z1 := hb6.out.cell 1; have z2 := hb6.out.cell 2; have z3 := hb6.out.cell 3; have hHi := Lib.hid hown'; have hgi := Lib.hid hgr; clear hown' hgr hat; simp at z0 z1 z2 z3)
              have HI2 := Lib.hid (isOneOf_any qk qa qb qx closeB w5.heap.size 1 (w5.alloc (.cells #[.string closeB] 9)) (by simp) (Blk.cell (Blk.new w5 _ _) 0))
              have HBD : Hid (Below w5.heap.size w5 (w5.alloc (.cells #[.string closeB] 9))) := (Below.refl w5.heap.size w5).alloc (Nat.le_refl _) _
              obtain ⟨k, hkk⟩ : ∃ k, k = oneOf qk qx closeB := ⟨_, rfl⟩
              rw [← hkk] at HI2
              have HK := Lib.hid hkk
              clear hkk
              refine HI2.out.mono ?_
              rintro e w6 ⟨rfl, hb6'⟩
              have hb7 := HBD.out.trans (hb6'.mono HBD.out.size)
              have hO7 : Hid (w6.ownsRow w.heap.size 9 1 (.slice (some ⟨g5, 0, none⟩) (acc.length + 1) cap5) (acc ++ [px]).length ((acc ++ [px]).map Value.string)) := own_belowD hO5.out hb7
              have hB7 : Hid (Below w.heap.size w w6) := hB5.out.trans (hb7.mono hB5.out.size)
              have HX6 : Hid (Blk w6 h6 29 #[.int .i64 qk, .string qb, .string qx, .int .i64 qa]) := hb6.out.below hb7 hb6.out.lt
              clear hb6' hb7 HBD HI2 z0 z1 z2 z3 hb6
              cases k with
              | true =>
                have hn := Lib.hid (hP.out.symm.trans (show parG acc _ = some (acc ++ [px], r) by rw [parG, if_pos (.inl rfl), if_pos HK.out.symm]))
                clear hP
                go_wp2_with fail
                go_ret3
                refine ⟨hB7.out, ?_⟩
                rw [hn.out]
                exact ⟨_, o3, c3, rfl, by simpa using hO7.out, hc3, HKW.out _ hB7.out⟩
              | false =>
                have z0 := HX6.out.cell 0
                have z1 := HX6.out.cell 1
                have z2 := HX6.out.cell 2
                have z3 := HX6.out.cell 3
                simp at z0 z1 z2 z3
                have HI3 := Lib.hid (isOneOf_any qk qa qb qx commaB w6.heap.size 1 (w6.alloc (.cells #[.string commaB] 9)) (by simp) (Blk.cell (Blk.new w6 _ _) 0))
                have HBD : Hid (Below w6.heap.size w6 (w6.alloc (.cells #[.string commaB] 9))) := (Below.refl w6.heap.size w6).alloc (Nat.le_refl _) _
                obtain ⟨m, hm⟩ : ∃ m, m = oneOf qk qx commaB := ⟨_, rfl⟩
                rw [← hm] at HI3
                have HM := Lib.hid hm
                clear hm
                go_wp2_with fail
                refine HI3.out.mono ?_
                rintro e w8 ⟨rfl, hb8'⟩
                have hb9 := HBD.out.trans (hb8'.mono HBD.out.size)
                have hO9 : Hid (w8.ownsRow w.heap.size 9 1 (.slice (some ⟨g5, 0, none⟩) (acc.length + 1) cap5) (acc ++ [px]).length ((acc ++ [px]).map Value.string)) := own_belowD hO7.out hb9
                have hB9 : Hid (Below w.heap.size w w8) := hB7.out.trans (hb9.mono hB7.out.size)
                clear hb8' hb9 HBD HI3 z0 z1 z2 z3
                cases m with
                | false =>
                  have hn := Lib.hid (hP.out.symm.trans (show parG acc _ = none by rw [parG, if_pos (.inl rfl), if_neg (by rw [← HK.out]; decide), if_pos (.inr (by rw [← HM.out]; decide))]))
                  clear hP
                  go_wp2_with fail
                  go_ret3
                  exact ⟨hB9.out, by rw [hn.out]; rfl⟩
                | true =>
                  have hn := Lib.hid (hP.out.symm.trans (show parG acc _ = parG (acc ++ [px]) r by rw [parG, if_pos (.inl rfl), if_neg (by rw [← HK.out]; decide), if_neg (by rw [← HM.out, ← HD.out]; decide)]))
                  clear hP
                  go_wp2_with fail
                  go_roundw
                  case rel => exact ⟨acc ++ [px], o3, c3, r, rfl, hc3, by have h1 := hls.out; have h2 := HN.out; unfold Hid; rw [List.length_append, List.length_singleton]; omega, by have := hO9.out; rw [show (acc ++ [px]).length = acc.length + 1 by simp] at this ⊢; exact this, HKW.out _ hB9.out, hn.out.symm, hB9.out, ⟨some ⟨g5, 0, none⟩, cap5, by simp⟩⟩
                  case measure => have h2 := HN.out; show r.length < n; omega
            · have p1 : ¬ (pk : Int) = 1 := by omega
              have p2 : ((pk : Int) == 1) = false := by simpa using p1
              have p3 : ((pk : Int) != 1) = true := by rw [bne, p2]; rfl
              cases d with
              | false =>
                have hn := Lib.hid (hP.out.symm.trans (show parG acc _ = none by rw [parG, if_neg (by rw [← HD.out]; simp [hk])]))
                clear hP
                have y0 := HB5.out.cell 0
                simp at y0
                go_wp2_with fail
                go_ret3
                exact ⟨hB.out.trans (HBZ.out.mono hB.out.size), by rw [hn.out]; rfl⟩
              | true =>
                have y0 := HB5.out.cell 0
                simp at y0
                go_wp2_with (at_builtin; refine wpList_append_own_at _ rfl (.tmp 41) (.tmp 44) 59 rfl w.heap.size 9 i0 _ 1 16 Tryz.underlying59 hi hz0 hz1 hz2 rfl (by decide) _ acc.length (acc.map Value.string) rfl (HO2.out.alloc _) ⟨w2.heap.size, 0, none⟩ 1 1 [Value.string px] rfl rfl (cell_one_new _ _ _) (by simp [Value.oneCell']) (by unfold maxLen; omega) (by omega) (by simp; omega) ?_; intro v' w5 hown' hgr _ hat; obtain ⟨g5, cap5, rfl, hgb5, hglt5⟩ := hown'.form (by omega); obtain ⟨hb6, hO5, hB5⟩ := HAPP.out _ _ _ rfl hown' hgr; have z0 := hb6.out.cell 0; have z1 := hb6.out.cell 1; have z2 := hb6.out.cell 2; have z3 := hb6.out.cell 3; have hHi := Lib.hid hown'; have hgi := Lib.hid hgr; clear hown' hgr hat; simp at z0 z1 z2 z3)
                have HI2 := Lib.hid (isOneOf_any qk qa qb qx closeB w5.heap.size 1 (w5.alloc (.cells #[.string closeB] 9)) (by simp) (Blk.cell (Blk.new w5 _ _) 0))
                have HBD : Hid (Below w5.heap.size w5 (w5.alloc (.cells #[.string closeB] 9))) := (Below.refl w5.heap.size w5).alloc (Nat.le_refl _) _
                obtain ⟨k, hkk⟩ : ∃ k, k = oneOf qk qx closeB := ⟨_, rfl⟩
                rw [← hkk] at HI2
                have HK := Lib.hid hkk
                clear hkk
                refine HI2.out.mono ?_
                rintro e w6 ⟨rfl, hb6'⟩
                have hb7 := HBD.out.trans (hb6'.mono HBD.out.size)
                have hO7 : Hid (w6.ownsRow w.heap.size 9 1 (.slice (some ⟨g5, 0, none⟩) (acc.length + 1) cap5) (acc ++ [px]).length ((acc ++ [px]).map Value.string)) := own_belowD hO5.out hb7
                have hB7 : Hid (Below w.heap.size w w6) := hB5.out.trans (hb7.mono hB5.out.size)
                have HX6 : Hid (Blk w6 h6 29 #[.int .i64 qk, .string qb, .string qx, .int .i64 qa]) := hb6.out.below hb7 hb6.out.lt
                clear hb6' hb7 HBD HI2 z0 z1 z2 z3 hb6
                cases k with
                | true =>
                  have hn := Lib.hid (hP.out.symm.trans (show parG acc _ = some (acc ++ [px], r) by rw [parG, if_pos (.inr HD.out.symm), if_pos HK.out.symm]))
                  clear hP
                  go_wp2_with fail
                  go_ret3
                  refine ⟨hB7.out, ?_⟩
                  rw [hn.out]
                  exact ⟨_, o3, c3, rfl, by simpa using hO7.out, hc3, HKW.out _ hB7.out⟩
                | false =>
                  have hn := Lib.hid (hP.out.symm.trans (show parG acc _ = none by rw [parG, if_pos (.inr HD.out.symm), if_neg (by rw [← HK.out]; decide), if_pos (.inl HD.out.symm)]))
                  clear hP
                  go_wp2_with fail
                  go_ret3
                  exact ⟨hB7.out, by rw [hn.out]; rfl⟩

end Go.Proofs.YtjdpkhjoecfhlaaGreatDoor
