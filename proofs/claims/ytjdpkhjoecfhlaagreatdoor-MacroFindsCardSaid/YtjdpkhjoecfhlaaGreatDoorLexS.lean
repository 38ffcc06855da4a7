/- Lex: what stands before a token is gone over. -/
import Derived.Test.YtjdpkhjoecfhlaaGreatDoorLexE
namespace Go.Proofs.YtjdpkhjoecfhlaaGreatDoor
open Go.RowKit Go.Maps Go.Shelf

/-- what is left of a text, told by the scanner's place -/
def leftOf (p n : Nat) (w : World) : Nat := match w.cell? ⟨p, 1, none⟩ with
  | some (.int _ q) => n - q.toNat
  | _ => 0
theorem leftOf_at {w : World} {p n i : Nat} (h : w.cell? ⟨p, 1, none⟩ = some (.int .i64 i)) : leftOf p n w = n - i := by
  unfold leftOf; rw [h]; simp

theorem ScB.setAt {w : World} {p : Nat} {s : ByteArray} {i K : Nat} {f : Bool} {oc os T : Nat} (h : ScB w p s i K f oc os T) (j : Nat) : ScB (w.setCell ⟨p, 1, none⟩ (.int .i64 j)) p s j K f oc os T := Blk.set h 1 _
theorem ScB.setFresh {w : World} {p : Nat} {s : ByteArray} {i K : Nat} {f : Bool} {oc os T : Nat} (h : ScB w p s i K f oc os T) (b : Bool) : ScB (w.setCell ⟨p, 3, none⟩ (.bool b)) p s i K b oc os T := Blk.set h 3 _

/-- one round of it -/
theorem skip_go {f : Bool} {l : List UInt8} {i n : Nat} {r : Nat × Bool} (h : i + (skipF f l).1 = r.1 ∧ (skipF f l).2 = r.2) {g : Bool} (hp : pieceF f l = (n, g)) (hn : n ≠ 0) :
    i + n + (skipF g (l.drop n)).1 = r.1 ∧ (skipF g (l.drop n)).2 = r.2 := by
  rw [skipF_step, hp, if_neg hn] at h
  exact ⟨by rw [Nat.add_assoc]; exact h.1, h.2⟩
theorem skip_end {f : Bool} {l : List UInt8} {i : Nat} {r : Nat × Bool} (h : i + (skipF f l).1 = r.1 ∧ (skipF f l).2 = r.2) {g : Bool} (hp : pieceF f l = (0, g)) : i = r.1 ∧ g = r.2 := by
  rw [skipF_step, hp, if_pos rfl] at h
  exact h

theorem piece_head (f : Bool) (c : UInt8) (l : List UInt8) : pieceF f (c :: l) = if c.toNat = 32 ∨ c.toNat = 9 then (1, f) else if c.toNat = 10 then (1, true) else if c.toNat = 11 ∨ c.toNat = 12 ∨ c.toNat = 13 then (1, false)
      else if c.toNat = 92 then (joinN (c :: l), decide (0 < joinN (c :: l)))
      else if c.toNat = 47 then (comN (c :: l), f || ((c :: l).take (comN (c :: l))).contains 10)
      else (0, f) := rfl

theorem indexByte_iff (c : UInt8) : ∀ l : List UInt8, 0 ≤ Lib.indexByte l c ↔ c ∈ l
  | [] => by simp [Lib.indexByte]
  | d :: l => by
    have ih := indexByte_iff c l
    have hge := Lib.indexByte_ge l c
    simp only [Lib.indexByte, beq_iff_eq, List.mem_cons]
    by_cases h : d = c
    · subst h; simp
    · have h' : ¬ c = d := fun e => h e.symm
      rw [if_neg h]
      by_cases q : Lib.indexByte l c = -1
      · rw [if_pos q, ← ih]
        exact ⟨fun g => by omega, fun g => by rcases g with g | g; exact absurd g h'; omega⟩
      · rw [if_neg q, ← ih]
        exact ⟨fun g => .inr (by omega), fun g => by omega⟩
theorem indexByte_mem (c : UInt8) (l : List UInt8) : decide (0 ≤ Lib.indexByte l c) = l.contains c := by
  cases e : l.contains c
  · refine decide_eq_false fun h => ?_
    have := (indexByte_iff c l).1 h
    simp at e; exact e this
  · refine decide_eq_true ((indexByte_iff c l).2 ?_)
    simpa using e

set_option maxHeartbeats 8000000 in
set_option maxRecDepth 100000 in
theorem skip_any (p K T oc os i0 : Nat) (f0 : Bool) (m : Int) (s : ByteArray) (w : World) (hi0 : i0 ≤ s.size) (hs : s.size ≤ 4000000) (h : ScB w p s i0 K f0 oc os T)
    (hpm : 2 < p) (hm : w.cell? ⟨2, 0, none⟩ = some (.int .i64 m)) :
    Calls Tryz.prog 99 #[.pointer (some ⟨p, 0, none⟩)] w fun e w' => (∃ v, e = .returned v) ∧
      w.grownBy w' (some p) ∧ ScB w' p s (i0 + (skipF f0 (s.data.toList.drop i0)).1) K (skipF f0 (s.data.toList.drop i0)).2 oc os T := by
  obtain ⟨r, hr⟩ : ∃ r : Nat × Bool, r = (i0 + (skipF f0 (s.data.toList.drop i0)).1, (skipF f0 (s.data.toList.drop i0)).2) := ⟨_, rfl⟩
  have hr1 : i0 + (skipF f0 (s.data.toList.drop i0)).1 = r.1 ∧ (skipF f0 (s.data.toList.drop i0)).2 = r.2 := by rw [hr]; exact ⟨rfl, rfl⟩
  rw [hr1.1, hr1.2]
  have hml := World.block_lt_of_cell? w _ hm
  have HM := Lib.hid (fun w' (hg : w.grownBy w' (some p)) => World.grownBy.cell hg hm (by simp; omega))
  have HS0 := Lib.hid h
  have HR1 := Lib.hid hr1
  clear h hr hr1 hm hml
  go_enter Tryz.func99, Tryz.ntmps99
  try go_wp2_with fail
  go_loopw [2, 3] (fun _ _ wr => ∃ (i : Nat) (f : Bool), i ≤ s.size ∧ Hid (ScB wr p s i K f oc os T) ∧ Hid (w.grownBy wr (some p)) ∧ Hid (i + (skipF f (s.data.toList.drop i)).1 = r.1 ∧ (skipF f (s.data.toList.drop i)).2 = r.2)) (fun _ _ wr => leftOf p s.size wr)
  case atStart => exact ⟨i0, f0, hi0, HS0.out, grownBy_refl _ _, HR1.out⟩
  case round =>
    obtain ⟨i, f, hi, hS, hG, hT⟩ := hrel
    have c0 := hS.out.c0
    have c1 := hS.out.c1
    have hme : Hid (leftOf p s.size wr = s.size - i) := leftOf_at c1
    have q1 : (0 : Int) ≤ i := by omega
    have q3 : (i : Int) ≤ s.size := by omega
    by_cases hlt : i < s.size
    · have q2 : (i : Int) < s.size := by omega
      go_wp2_with fail
      go_quiet (fail)
      have hS1 : Hid (ScB (wr.drewN nq) p s i K f oc os T) := hS.out
      have hG1 : Hid (w.grownBy (wr.drewN nq) (some p)) := grownBy_trans hG.out (grownBy_drewN _ _ _)
      clear c0 c1 hS hG
      generalize wr.drewN nq = w1 at *
      have c0 := hS1.out.c0
      have c1 := hS1.out.c1
      go_wp2_with fail
      go_quiet (fail)
      have hS2 : Hid (ScB (w1.drewN nq) p s i K f oc os T) := hS1.out
      have hG2 : Hid (w.grownBy (w1.drewN nq) (some p)) := grownBy_trans hG1.out (grownBy_drewN _ _ _)
      clear c0 c1 hS1 hG1
      generalize w1.drewN nq = w2 at *
      have c1 := hS2.out.c1
      have c3 := hS2.out.c3
      have z1 := Blk.frozen hS2.out 1
      have z3 := Blk.frozen hS2.out 3
      have hxl := ext_drop s i
      have hxs : (s.extract i s.size).size = s.size - i := by rw [ByteArray.size_extract]; omega
      generalize hxe : s.extract i s.size = x at *
      have hx0 : 0 < x.size := by omega
      have hd0 := drop_at x 0 hx0
      rw [List.drop_zero] at hd0
      have hd : s.data.toList.drop i = x[0]'hx0 :: x.data.toList.drop 1 := hxl.symm.trans hd0
      have hph := piece_head f (x[0]'hx0) (x.data.toList.drop 1)
      rw [← hd] at hph
      have HPH := Lib.hid hph
      have HXL := Lib.hid hxl
      have HXS := Lib.hid hxs
      clear hxe hd hd0 hph hxl hxs
      by_cases a1 : (x[0].toNat : Int) = 32
      · have hp : pieceF f (s.data.toList.drop i) = (1, f) := by rw [HPH.out]; rw [if_pos (by omega)]
        have HT := Lib.hid (skip_go hT.out hp (by decide))
        clear hp hT HPH
        go_wp2
        go_roundw
        case rel =>
          refine ⟨i + 1, f, by omega, (by have := hS2.out.setAt (i + 1); exact this), grownBy_trans hG2.out (grownBy_setCellJ w2 p 1 _), ?_⟩
          have := HT.out
          rw [List.drop_drop] at this
          exact this
        case measure => rw [hme.out]; exact Nat.lt_of_le_of_lt (Nat.le_of_eq (leftOf_at (ScB.c1 (hS2.out.setAt (i + 1))))) (by omega)
      · by_cases a2 : (x[0].toNat : Int) = 9
        · have hp : pieceF f (s.data.toList.drop i) = (1, f) := by rw [HPH.out]; rw [if_pos (by omega)]
          have HT := Lib.hid (skip_go hT.out hp (by decide))
          clear hp hT HPH
          go_wp2
          go_roundw
          case rel =>
            refine ⟨i + 1, f, by omega, (by have := hS2.out.setAt (i + 1); exact this), grownBy_trans hG2.out (grownBy_setCellJ w2 p 1 _), ?_⟩
            have := HT.out
            rw [List.drop_drop] at this
            exact this
          case measure => rw [hme.out]; exact Nat.lt_of_le_of_lt (Nat.le_of_eq (leftOf_at (ScB.c1 (hS2.out.setAt (i + 1))))) (by omega)
        · by_cases a3 : (x[0].toNat : Int) = 10
          · have hp : pieceF f (s.data.toList.drop i) = (1, true) := by rw [HPH.out]; rw [if_neg (by omega), if_pos (by omega)]
            have HT := Lib.hid (skip_go hT.out hp (by decide))
            clear hp hT HPH
            go_wp2
            go_roundw
            case rel =>
              refine ⟨i + 1, true, by omega, (by have := (hS2.out.setFresh true).setAt (i + 1); exact this), grownBy_trans hG2.out (grownBy_trans (grownBy_setCellJ w2 p 3 _) (grownBy_setCellJ _ p 1 _)), ?_⟩
              have := HT.out
              rw [List.drop_drop] at this
              exact this
            case measure => rw [hme.out]; exact Nat.lt_of_le_of_lt (Nat.le_of_eq (leftOf_at (ScB.c1 ((hS2.out.setFresh true).setAt (i + 1))))) (by omega)
          · by_cases a4 : (x[0].toNat : Int) = 11
            · have hp : pieceF f (s.data.toList.drop i) = (1, false) := by rw [HPH.out]; rw [if_neg (by omega), if_neg (by omega), if_pos (by omega)]
              have HT := Lib.hid (skip_go hT.out hp (by decide))
              clear hp hT HPH
              go_wp2
              go_roundw
              case rel =>
                refine ⟨i + 1, false, by omega, (by have := (hS2.out.setFresh false).setAt (i + 1); exact this), grownBy_trans hG2.out (grownBy_trans (grownBy_setCellJ w2 p 3 _) (grownBy_setCellJ _ p 1 _)), ?_⟩
                have := HT.out
                rw [List.drop_drop] at this
                exact this
              case measure => rw [hme.out]; exact Nat.lt_of_le_of_lt (Nat.le_of_eq (leftOf_at (ScB.c1 ((hS2.out.setFresh false).setAt (i + 1))))) (by omega)
            · by_cases a5 : (x[0].toNat : Int) = 12
              · have hp : pieceF f (s.data.toList.drop i) = (1, false) := by rw [HPH.out]; rw [if_neg (by omega), if_neg (by omega), if_pos (by omega)]
                have HT := Lib.hid (skip_go hT.out hp (by decide))
                clear hp hT HPH
                go_wp2
                go_roundw
                case rel =>
                  refine ⟨i + 1, false, by omega, (by have := (hS2.out.setFresh false).setAt (i + 1); exact this), grownBy_trans hG2.out (grownBy_trans (grownBy_setCellJ w2 p 3 _) (grownBy_setCellJ _ p 1 _)), ?_⟩
                  have := HT.out
                  rw [List.drop_drop] at this
                  exact this
                case measure => rw [hme.out]; exact Nat.lt_of_le_of_lt (Nat.le_of_eq (leftOf_at (ScB.c1 ((hS2.out.setFresh false).setAt (i + 1))))) (by omega)
              · by_cases a6 : (x[0].toNat : Int) = 13
                · have hp : pieceF f (s.data.toList.drop i) = (1, false) := by rw [HPH.out]; rw [if_neg (by omega), if_neg (by omega), if_pos (by omega)]
                  have HT := Lib.hid (skip_go hT.out hp (by decide))
                  clear hp hT HPH
                  go_wp2
                  go_roundw
                  case rel =>
                    refine ⟨i + 1, false, by omega, (by have := (hS2.out.setFresh false).setAt (i + 1); exact this), grownBy_trans hG2.out (grownBy_trans (grownBy_setCellJ w2 p 3 _) (grownBy_setCellJ _ p 1 _)), ?_⟩
                    have := HT.out
                    rw [List.drop_drop] at this
                    exact this
                  case measure => rw [hme.out]; exact Nat.lt_of_le_of_lt (Nat.le_of_eq (leftOf_at (ScB.c1 ((hS2.out.setFresh false).setAt (i + 1))))) (by omega)
                · by_cases a7 : (x[0].toNat : Int) = 92
                  · have J := fun W => joinSize_any x W
                    rw [HXL.out] at J
                    have hjl := joinN_le (s.data.toList.drop i)
                    rw [List.length_drop] at hjl
                    have hsl : s.data.toList.length = s.size := by simp
                    rw [hsl] at hjl
                    have hph := HPH.out
                    rw [if_neg (by omega), if_neg (by omega), if_neg (by omega), if_pos (by omega)] at hph
                    generalize joinN (s.data.toList.drop i) = n at *
                    have HJ := Lib.hid J
                    by_cases hn : n = 0
                    · subst hn
                      have HE := Lib.hid (skip_end hT.out hph)
                      clear J hjl hsl hph hT HPH
                      go_wp2_with fail
                      refine (HJ.out _).mono ?_
                      rintro e w3 ⟨rfl, rfl⟩
                      go_wp2
                      try simp only [Exit.inBlock, Exit.then]
                      refine bodyPost_ret (results_none rfl _ _ _) rfl ?_
                      have e1 := HE.out.1
                      have e2 := HE.out.2
                      exact ⟨⟨_, rfl⟩, grownBy_trans hG2.out (grownBy_setCellJ _ p 3 _), by rw [← e1, ← e2]; exact hS2.out.setFresh false⟩
                    · have HT := Lib.hid (skip_go hT.out hph hn)
                      have hn1 : (0 : Int) < n := by omega
                      have hn2 : ¬ (n : Int) = 0 := by omega
                      clear J hsl hph hT HPH
                      go_wp2_with fail
                      refine (HJ.out _).mono ?_
                      rintro e w3 ⟨rfl, rfl⟩
                      go_wp2
                      go_roundw
                      case rel =>
                        refine ⟨i + n, decide (0 < n), by omega, (by have := (hS2.out.setFresh (decide (0 < n))).setAt (i + n); exact this), grownBy_trans hG2.out (grownBy_trans (grownBy_setCellJ _ p 3 _) (grownBy_setCellJ _ p 1 _)), ?_⟩
                        have := HT.out
                        rw [List.drop_drop] at this
                        exact this
                      case measure => rw [hme.out]; exact Nat.lt_of_le_of_lt (Nat.le_of_eq (leftOf_at (ScB.c1 ((hS2.out.setFresh (decide (0 < n))).setAt (i + n))))) (by omega)
                  · by_cases a8 : (x[0].toNat : Int) = 47
                    · have J := commentSize_any x m w2 (by have := HXS.out; omega) (HM.out w2 hG2.out)
                      have J2 := fun W => Tryz.strings_Contains_one (x.extract 0 (comN (s.data.toList.drop i))) 10 W
                      rw [ext_take, HXL.out, indexByte_mem] at J2
                      rw [HXL.out] at J
                      have hjl := comN_le (s.data.toList.drop i)
                      rw [List.length_drop] at hjl
                      have hsl : s.data.toList.length = s.size := by simp
                      rw [hsl] at hjl
                      have hph := HPH.out
                      rw [if_neg (by omega), if_neg (by omega), if_neg (by omega), if_neg (by omega), if_pos (by omega)] at hph
                      generalize comN (s.data.toList.drop i) = n at *
                      have HJ := Lib.hid J
                      by_cases hn : n = 0
                      · subst hn
                        rw [List.take_zero] at hph
                        simp only [List.contains_nil, Bool.or_false] at hph
                        have J3 := fun W => Tryz.strings_Contains_one ByteArray.empty 10 W
                        rw [show decide (0 ≤ Lib.indexByte ByteArray.empty.data.toList 10) = false from rfl] at J3
                        have HJ2 := Lib.hid J3
                        have HE := Lib.hid (skip_end hT.out hph)
                        have hx2 : (0 : Int) ≤ x.size := by omega
                        clear J hjl hsl hph hT HPH J2 J3
                        go_wp2_with fail
                        refine HJ.out.mono ?_
                        rintro e w3 ⟨rfl, rfl⟩
                        go_wp2_with fail
                        refine (HJ2.out _).mono ?_
                        rintro e w4 ⟨rfl, rfl⟩
                        go_wp2
                        try simp only [Exit.inBlock, Exit.then]
                        refine bodyPost_ret (results_none rfl _ _ _) rfl ?_
                        have e1 := HE.out.1
                        have e2 := HE.out.2
                        exact ⟨⟨_, rfl⟩, hG2.out, by rw [← e1, ← e2]; exact hS2.out⟩
                      · generalize ((s.data.toList.drop i).take n).contains 10 = b at *
                        have HT := Lib.hid (skip_go hT.out hph hn)
                        have HJ2 := Lib.hid J2
                        have hn1 : (0 : Int) < n := by omega
                        have hn2 : ¬ (n : Int) = 0 := by omega
                        have hx2 : (n : Int) ≤ x.size := by have := HXS.out; omega
                        clear J hsl hph hT HPH J2
                        cases b
                        · rw [Bool.or_false] at HT
                          go_wp2_with fail
                          refine HJ.out.mono ?_
                          rintro e w3 ⟨rfl, rfl⟩
                          go_wp2_with fail
                          refine (HJ2.out _).mono ?_
                          rintro e w4 ⟨rfl, rfl⟩
                          go_wp2
                          go_roundw
                          case rel =>
                            refine ⟨i + n, f, by omega, (by have := hS2.out.setAt (i + n); exact this), grownBy_trans hG2.out (grownBy_setCellJ _ p 1 _), ?_⟩
                            have := HT.out
                            rw [List.drop_drop] at this
                            exact this
                          case measure => rw [hme.out]; exact Nat.lt_of_le_of_lt (Nat.le_of_eq (leftOf_at (ScB.c1 (hS2.out.setAt (i + n))))) (by omega)
                        · rw [Bool.or_true] at HT
                          go_wp2_with fail
                          refine HJ.out.mono ?_
                          rintro e w3 ⟨rfl, rfl⟩
                          go_wp2_with fail
                          refine (HJ2.out _).mono ?_
                          rintro e w4 ⟨rfl, rfl⟩
                          go_wp2
                          go_roundw
                          case rel =>
                            refine ⟨i + n, true, by omega, (by have := (hS2.out.setFresh true).setAt (i + n); exact this), grownBy_trans hG2.out (grownBy_trans (grownBy_setCellJ _ p 3 _) (grownBy_setCellJ _ p 1 _)), ?_⟩
                            have := HT.out
                            rw [List.drop_drop] at this
                            exact this
                          case measure => rw [hme.out]; exact Nat.lt_of_le_of_lt (Nat.le_of_eq (leftOf_at (ScB.c1 ((hS2.out.setFresh true).setAt (i + n))))) (by omega)
                    · have hp : pieceF f (s.data.toList.drop i) = (0, f) := by rw [HPH.out, if_neg (by omega), if_neg (by omega), if_neg (by omega), if_neg (by omega), if_neg (by omega)]
                      have HE := Lib.hid (skip_end hT.out hp)
                      clear hp hT HPH
                      go_wp2
                      try simp only [Exit.inBlock, Exit.then]
                      refine bodyPost_ret (results_none rfl _ _ _) rfl ?_
                      have e1 := HE.out.1
                      have e2 := HE.out.2
                      exact ⟨⟨_, rfl⟩, hG2.out, by rw [← e1, ← e2]; exact hS2.out⟩
    · obtain rfl : i = s.size := by omega
      have hT2 := hT.out
      rw [drop_all] at hT2
      have q2 : ¬ ((s.size : Nat) : Int) < s.size := by omega
      have HE := Lib.hid (skip_end hT2 rfl)
      clear hT2
      go_wp2_with fail
      go_quiet (fail)
      go_wp2
      go_end0
      have e1 := HE.out.1
      have e2 := HE.out.2
      exact ⟨⟨_, rfl⟩, grownBy_trans hG.out (grownBy_drewN _ _ _), by rw [← e1, ← e2]; exact hS.out⟩

end Go.Proofs.YtjdpkhjoecfhlaaGreatDoor
