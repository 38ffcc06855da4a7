/- Lex: At over any tokens, the program's and the document's. -/
import Derived.Test.YtihnafocjognaaaDoorTzA
namespace Go.Proofs.YtihnafocjognaaaDoor
open Go.RowKit Go.Maps Go.Shelf

/-- what At answers -/
def AtP (l : List Tz) (at_ r E : Int) : Prop :=
  (wholeZ l = false ∧ r = 0 ∧ E = 3) ∨ (wholeZ l = true ∧ (at_ < 0 ∨ (sumZ l : Int) < at_) ∧ r = 0 ∧ E = 1) ∨
    (wholeZ l = true ∧ ¬ (at_ < 0 ∨ (sumZ l : Int) < at_) ∧ E = 0 ∧ ∃ j : Nat, r = j ∧ j < l.length ∧ (begZ l j : Int) ≤ at_ ∧ ∀ i, j < i → i < l.length → at_ < begZ l i)
theorem AtP.uniq {l : List Tz} {at_ r E r' E' : Int} (h : AtP l at_ r E) (h' : AtP l at_ r' E') : r = r' ∧ E = E' := by
  rcases h with ⟨a, b, c⟩ | ⟨a, b, c, d⟩ | ⟨a, b, c, j, d, e, f, g⟩
  · rcases h' with ⟨_, b', c'⟩ | ⟨a', _⟩ | ⟨a', _⟩
    · exact ⟨by rw [b, b'], by rw [c, c']⟩
    · rw [a] at a'; cases a'
    · rw [a] at a'; cases a'
  · rcases h' with ⟨a', _⟩ | ⟨_, _, c', d'⟩ | ⟨_, b', _⟩
    · rw [a] at a'; cases a'
    · exact ⟨by rw [c, c'], by rw [d, d']⟩
    · exact absurd b b'
  · rcases h' with ⟨a', _⟩ | ⟨_, b', _⟩ | ⟨_, _, c', j', d', e', f', g'⟩
    · rw [a] at a'; cases a'
    · exact absurd b' b
    · refine ⟨?_, by rw [c, c']⟩
      have : j = j' := by
        rcases Nat.lt_trichotomy j j' with k | k | k
        · have := g j' k e'; omega
        · exact k
        · have := g' j k e; omega
      rw [d, d', this]
theorem wholeZ_nil : wholeZ [] = false := rfl
theorem wholeZ_ok {l : List Tz} (h : wholeZ l = true) : okZ 0 l = true ∧ lastZ l = true := by
  unfold wholeZ at h
  simpa using h

set_option maxHeartbeats 8000000 in
set_option maxRecDepth 100000 in
theorem atZ_any (A : Option Addr) (c : Nat) (l : List Tz) (at_ : Int) (w : World) (hl : l.length ≤ 40100) (hs : sumZ l ≤ 200100) (h : ZRd w w.heap.size A l) :
    Calls Tryd.prog 12 #[.slice A l.length c, .int .i64 at_] w fun e w' => (∃ r E : Int, e = .returned (.tuple #[.int .i64 r, .int .i64 E]) ∧ AtP l at_ r E) ∧ Below w.heap.size w w' := by
  have W1 := Lib.hid (wholeSizeZ_any A c l w hl hs h)
  have HR := Lib.hid h
  have hlI : (l.length : Int) ≤ 40100 := by omega
  have hp : ∀ i, (begZ l i : Int) ≤ 200100 := fun i => by have := begZ_le l i; omega
  have HP := Lib.hid hp
  have hpos : wholeZ l = true → 0 < l.length := fun e => by
    cases l with
    | nil => cases e
    | cons t l => simp
  have hplc := okZ_place l
  obtain ⟨V, hV⟩ : ∃ V, V = wholeZ l := ⟨_, rfl⟩
  rw [← hV] at W1 hpos
  have HV := Lib.hid hV
  cases V
  · clear h hl hs hp hV hpos hplc
    go_enter Tryd.func12, Tryd.ntmps12
    go_wp2_with fail
    refine W1.out.mono ?_
    rintro e w1 ⟨⟨v, rfl, _⟩, hb1⟩
    have HB1 := Lib.hid hb1
    clear hb1
    go_wp2
    go_ret2
    exact ⟨⟨0, 3, rfl, .inl ⟨HV.out.symm, rfl, rfl⟩⟩, HB1.out⟩
  · have hpl := hpos rfl
    have hlI0 : (0 : Int) < l.length := by omega
    have hplc2 := hplc (wholeZ_ok hV.symm).1
    have HPLC := Lib.hid hplc2
    have HSS := Lib.hid hs
    clear h hl hs hp hV hpos hplc hplc2
    go_enter Tryd.func12, Tryd.ntmps12
    go_wp2_with fail
    refine W1.out.mono ?_
    rintro e w1 ⟨⟨v, rfl, hv⟩, hb1⟩
    obtain rfl := hv (by trivial)
    have HB1 := Lib.hid hb1
    clear hb1 hv W1
    by_cases g0 : at_ < 0
    · go_wp2
      go_ret2
      exact ⟨⟨0, 1, rfl, .inr (.inl ⟨HV.out.symm, .inl g0, rfl, rfl⟩)⟩, HB1.out⟩
    · by_cases g1 : (sumZ l : Int) < at_
      · go_wp2
        go_ret2
        exact ⟨⟨0, 1, rfl, .inr (.inl ⟨HV.out.symm, .inr g1, rfl, rfl⟩)⟩, HB1.out⟩
      · go_wp2_with fail
        go_loopw [8] (fun vi wr => ∃ k : Nat, k < l.length ∧ vi = .int .i64 k ∧ Hid (∀ i, k < i → i < l.length → at_ < begZ l i) ∧ Hid (Below w.heap.size w wr)) (fun vi _ => (intOf vi).toNat)
        case atStart => exact ⟨l.length - 1, by omega, by go_num, fun i h1 h2 => by omega, HB1.out⟩
        case round =>
          obtain ⟨k, hk, rfl, hup, hb⟩ := hrel
          obtain ⟨b, off, eA, hB, c0, c1, c2, c3⟩ := (HR.out.below hb.out).at_ k hk
          cases eA
          have h1 := HPLC.out k hk
          have h2 := HP.out k
          have hbz : (l[k].b.size : Int) ≤ 200100 := by
            have h3 := begZ_succ l k hk
            have h4 := HP.out (k + 1)
            omega
          rw [h1] at c3
          have hkI : (k : Int) < l.length := by omega
          have hk0 : k = 0 → (begZ l k : Int) ≤ at_ := fun e => by rw [e, begZ_zero]; omega
          obtain ⟨p, hpp⟩ : ∃ p, p = begZ l k := ⟨_, rfl⟩
          rw [← hpp] at c3 h2 hk0
          have HPP := Lib.hid hpp
          have HUP := Lib.hid hup.out
          generalize l[k].b = tb at *
          have i3 : ((p + tb.size : Nat) : Int) = p + tb.size := by omega
          have i4 : (p : Int) + tb.size - tb.size = p := by omega
          clear h1 hpp hup c0 c2
          by_cases g2 : at_ < (p : Int)
          · have hk1 : 1 ≤ k := by
              rcases Nat.eq_zero_or_pos k with e | e
              · have := hk0 e; omega
              · exact e
            clear hk0
            go_wp2
            go_quiet (fail)
            go_wp2
            go_roundw
            case rel =>
              refine ⟨k - 1, by omega, by go_num, fun i h1 h2 => ?_, ⟨hb.out.os, hb.out.tape, hb.out.output, hb.out.size, hb.out.block⟩⟩
              by_cases e : i = k
              · rw [e, ← HPP.out]; exact g2
              · exact HUP.out i (by omega) h2
            case measure => simp [intOf]; omega
          · clear hk0
            go_wp2
            go_quiet (fail)
            go_wp2
            go_ret2
            exact ⟨⟨k, 0, rfl, .inr (.inr ⟨HV.out.symm, by omega, rfl, k, rfl, hk, by rw [← HPP.out]; omega, HUP.out⟩)⟩, ⟨hb.out.os, hb.out.tape, hb.out.output, hb.out.size, hb.out.block⟩⟩

end Go.Proofs.YtihnafocjognaaaDoor
