/- LexRescans: Rescan, the program's and the document's; the walk of the law. -/
import Derived.Test.YtihnafocjognaaaGreatDoorTRescan
import Derived.Test.YtihnafocjognaaaGreatDoorLexJ
namespace Go.Proofs.YtihnafocjognaaaGreatDoor
open Go.RowKit Go.Maps Go.Shelf

/-- what Rescan answers -/
def resOk (s : ByteArray) (l : List Tz) : Bool := scanOk s && decide ((scanL s).map toZ = l)
def resE (s : ByteArray) (l : List Tz) (x : Ed) : Int := if resOk s l = false then 3 else if ¬ applF s.size [x] = 0 then applF s.size [x] else (scanE (behind s [x]) : Nat)
def resT (s : ByteArray) (l : List Tz) (x : Ed) : ByteArray := if resE s l x = 0 then behind s [x] else ⟨#[]⟩
def resL (s : ByteArray) (l : List Tz) (x : Ed) : List Tk := if resE s l x = 0 then scanL (behind s [x]) else []

theorem isE_one (x : Ed) (w : World) : IsE (w.alloc (.cells #[.int .i64 x.f, .int .i64 x.t, .string x.s] 24)) (.slice (some ⟨w.heap.size, 0, none⟩) 1 1) [x] := by
  have hB := Blk.new w 24 #[.int .i64 x.f, .int .i64 x.t, .string x.s]
  refine ⟨some ⟨w.heap.size, 0, none⟩, 1, rfl, (fun e => by cases e), Nat.le_refl _, by unfold maxLen; omega, ?_⟩
  intro _
  refine ⟨w.heap.size, 0, rfl, by simp, fun j u hj => ?_⟩
  rw [Nat.zero_add, hB.cell]
  simpa [cellsE, Ed.cells] using hj

theorem zrd_of {w : World} {base n : Nat} {A : Option Addr} {c : Nat} {l : List Tk} (h : w.ownsRow base 33 4 (.slice A n c) n (cellsT l)) : ZRd w w.heap.size A (l.map toZ) := by
  have := Rd.of_own h
  rw [cellsT_Z] at this
  exact this

theorem behind_small (s : ByteArray) (x : Ed) (ha : applF s.size [x] = 0) : (behind s [x]).size ≤ 200000 := by
  unfold applF at ha
  by_cases h0 : fineF s.size [x] = 0
  · rw [if_neg (fun g => g h0)] at ha
    have hb := behind_length h0
    by_cases g : 200000 < (s.size : Int) + gsum (ordF [x])
    · rw [if_pos g] at ha; exact absurd ha (by decide)
    · omega
  · rw [if_pos h0] at ha
    exact absurd ha h0

set_option maxHeartbeats 8000000 in
set_option maxRecDepth 100000 in
theorem lexRescan_any (n0 : Nat) (s : ByteArray) (A : Option Addr) (c : Nat) (l : List Tz) (x : Ed) (w : World) (hs : s.size ≤ 1048576) (hl : l.length ≤ 1048576) (hx : x.s.size ≤ 1048576) (h : ZRd w w.heap.size A l) (hG : LexG n0 w) :
    Calls Tryz.prog 6 #[.string s, .slice A l.length c, .agg #[.int .i64 x.f, .int .i64 x.t, .string x.s]] w fun e w' => ∃ v, e = .returned (.tuple #[.string (resT s l x), v, .int .i64 (resE s l x)]) ∧ w'.ownsRow w.heap.size 33 4 v (resL s l x).length (cellsT (resL s l x)) ∧ Below w.heap.size w w' := by
  have hG1 : LexG n0 (w.alloc (.cells #[.int .i64 x.f, .int .i64 x.t, .string x.s] 24)) := hG.below ((Below.refl _ _).alloc (Nat.le_refl _) _)
  have hBL : Blk (w.alloc (.cells #[.int .i64 x.f, .int .i64 x.t, .string x.s] 24)) w.heap.size 24 #[.int .i64 x.f, .int .i64 x.t, .string x.s] := Blk.new w _ _
  have hB1 : Below w.heap.size w (w.alloc (.cells #[.int .i64 x.f, .int .i64 x.t, .string x.s] 24)) := (Below.refl _ _).alloc (Nat.le_refl _) _
  have SC := scan_any n0 s _ hG1
  have HR := Lib.hid h
  have HG1 := Lib.hid hG1
  have HBL := Lib.hid hBL
  have HB1 := Lib.hid hB1
  have hlt1 : w.heap.size < (w.alloc (.cells #[.int .i64 x.f, .int .i64 x.t, .string x.s] 24)).heap.size := by simp
  have HLT1 := Lib.hid hlt1
  have hsl := scanL_len s
  by_cases ok : scanOk s = true
  · have hE0 : scanE s = 0 := by unfold scanE; rw [if_pos ok]
    rw [hE0] at SC
    have HSC := Lib.hid SC
    by_cases hq : (scanL s).map toZ = l
    · have hro : resOk s l = true := by unfold resOk; rw [ok, decide_eq_true hq]; rfl
      have EQ := fun W A1 c1 (g1 : ZRd W W.heap.size A1 ((scanL s).map toZ)) (g2 : ZRd W W.heap.size A l) => Lib.hid ((by have e := equalTz_any A1 A c1 c ((scanL s).map toZ) l W (by rw [List.length_map]; omega) hl g1 g2; rw [List.length_map] at e; exact e : Calls Tryz.prog 10 #[.slice A1 (scanL s).length c1, .slice A l.length c] W fun e w' => e = .returned (.bool (decide ((scanL s).map toZ = l))) ∧ Below W.heap.size W w'))
      have AP := fun W v (g : IsE W v [x]) => Lib.hid (apply_any s v [x] W (by omega) (by simp) (fun y hy => by rw [show y = x by simpa using hy]; omega) g)
      rw [show decide ((scanL s).map toZ = l) = true by simp [hq]] at EQ
      by_cases ha : applF s.size [x] = 0
      · rw [if_pos ha, ha] at AP
        have AP2 : ∀ W v, IsE W v [x] → Hid (Calls Tryz.prog 11 #[.string s, v] W fun e w' => e = .returned (.tuple #[.string (behind s [x]), .int .i64 0]) ∧ Below W.heap.size W w') := AP
        have hrE : resE s l x = (scanE (behind s [x]) : Nat) := by unfold resE; rw [hro, if_neg (by decide), if_neg (fun g => g ha)]
        have S2 := fun W (g : LexG n0 W) => Lib.hid (scan_any n0 (behind s [x]) W g)
        by_cases ok2 : scanOk (behind s [x]) = true
        · have hE2 : scanE (behind s [x]) = 0 := by unfold scanE; rw [if_pos ok2]
          rw [hE2] at hrE S2
          have hrT : resT s l x = behind s [x] := by unfold resT; rw [if_pos (show resE s l x = 0 from hrE)]
          have hrL : resL s l x = scanL (behind s [x]) := by unfold resL; rw [if_pos (show resE s l x = 0 from hrE)]
          rw [hrE, hrT, hrL]
          generalize behind s [x] = T at *
          go_enter Tryz.func6, Tryz.ntmps6
          go_wp2_with fail
          refine HSC.out.mono ?_
          rintro e w2 ⟨v, rfl, hO, hb2⟩
          obtain ⟨A1, c1, rfl⟩ := own_len hO
          have hB2 := HB1.out.trans (hb2.mono HB1.out.size)
          have hz2 := zrd_of hO
          have hr2 : ZRd w2 w2.heap.size A l := (ZRd.below HR.out hB2).up hB2.size
          have hq2 := EQ w2 A1 c1 hz2 hr2
          have HQ2 := Lib.hid hq2.out
          have HG2 := Lib.hid (HG1.out.below hb2)
          have HBL2 := Lib.hid (Blk.below HBL.out hb2 HLT1.out)
          have HB2 := Lib.hid hB2
          have HLT2 := Lib.hid (Nat.lt_of_lt_of_le HLT1.out hb2.size)
          clear hO hb2 hB2 hz2 hr2 hq2 hro ok hE0 hE2 ok2 hrE hrT hrL SC hBL hG1 hB1 h hG hlt1 hsl hs hl hx EQ AP ha
          go_wp2_with fail
          refine HQ2.out.mono ?_
          rintro e w3 ⟨rfl, hb3⟩
          have HB3 := Lib.hid (HB2.out.trans (hb3.mono HB2.out.size))
          have HG3 := Lib.hid (HG2.out.below hb3)
          have HBL3 := Lib.hid (Blk.below HBL2.out hb3 HLT2.out)
          clear hb3
          have x0 := Blk.cell HBL3.out 0
          have x1 := Blk.cell HBL3.out 1
          have x2 := Blk.cell HBL3.out 2
          have hap := (AP2 (w3.alloc (.cells #[.int .i64 x.f, .int .i64 x.t, .string x.s] 24)) (.slice (some ⟨w3.heap.size, 0, none⟩) 1 1) (isE_one x w3)).out
          have HAP2 := Lib.hid hap
          have HB4 := Lib.hid (HB3.out.alloc HB3.out.size (.cells #[.int .i64 x.f, .int .i64 x.t, .string x.s] 24))
          have HG4 := Lib.hid (HG3.out.below ((Below.refl _ _).alloc (Nat.le_refl _) (.cells #[.int .i64 x.f, .int .i64 x.t, .string x.s] 24)))
          clear hap
          go_wp2_with fail
          refine HAP2.out.mono ?_
          rintro e w5 ⟨rfl, hb5⟩
          have HB5 := Lib.hid (HB4.out.trans (hb5.mono HB4.out.size))
          have HG5 := Lib.hid (HG4.out.below hb5)
          clear hb5 x0 x1 x2
          have HS2 := Lib.hid (S2 w5 HG5.out).out
          clear AP2 S2
          go_wp2_with fail
          refine HS2.out.mono ?_
          rintro e w6 ⟨v, rfl, hO6, hb6⟩
          obtain ⟨A6, c6, rfl⟩ := own_len hO6
          have HB6 := Lib.hid (HB5.out.trans (hb6.mono HB5.out.size))
          have HO6 := Lib.hid (own_baseL hO6 HB5.out.size)
          clear hO6 hb6
          go_wp2
          go_ret3
          exact ⟨_, rfl, HO6.out, HB6.out⟩
        · have hE2 : scanE (behind s [x]) = 2 := by unfold scanE; rw [if_neg ok2]
          rw [hE2] at hrE S2
          have hrT : resT s l x = ⟨#[]⟩ := by unfold resT; rw [if_neg (by rw [hrE]; decide)]
          have hrL : resL s l x = [] := by unfold resL; rw [if_neg (by rw [hrE]; decide)]
          rw [hrE, hrT, hrL]
          generalize behind s [x] = T at *
          go_enter Tryz.func6, Tryz.ntmps6
          go_wp2_with fail
          refine HSC.out.mono ?_
          rintro e w2 ⟨v, rfl, hO, hb2⟩
          obtain ⟨A1, c1, rfl⟩ := own_len hO
          have hB2 := HB1.out.trans (hb2.mono HB1.out.size)
          have hz2 := zrd_of hO
          have hr2 : ZRd w2 w2.heap.size A l := (ZRd.below HR.out hB2).up hB2.size
          have hq2 := EQ w2 A1 c1 hz2 hr2
          have HQ2 := Lib.hid hq2.out
          have HG2 := Lib.hid (HG1.out.below hb2)
          have HBL2 := Lib.hid (Blk.below HBL.out hb2 HLT1.out)
          have HB2 := Lib.hid hB2
          have HLT2 := Lib.hid (Nat.lt_of_lt_of_le HLT1.out hb2.size)
          clear hO hb2 hB2 hz2 hr2 hq2 hro ok hE0 hE2 ok2 hrE hrT hrL SC hBL hG1 hB1 h hG hlt1 hsl hs hl hx EQ AP ha
          go_wp2_with fail
          refine HQ2.out.mono ?_
          rintro e w3 ⟨rfl, hb3⟩
          have HB3 := Lib.hid (HB2.out.trans (hb3.mono HB2.out.size))
          have HG3 := Lib.hid (HG2.out.below hb3)
          have HBL3 := Lib.hid (Blk.below HBL2.out hb3 HLT2.out)
          clear hb3
          have x0 := Blk.cell HBL3.out 0
          have x1 := Blk.cell HBL3.out 1
          have x2 := Blk.cell HBL3.out 2
          have hap := (AP2 (w3.alloc (.cells #[.int .i64 x.f, .int .i64 x.t, .string x.s] 24)) (.slice (some ⟨w3.heap.size, 0, none⟩) 1 1) (isE_one x w3)).out
          have HAP2 := Lib.hid hap
          have HB4 := Lib.hid (HB3.out.alloc HB3.out.size (.cells #[.int .i64 x.f, .int .i64 x.t, .string x.s] 24))
          have HG4 := Lib.hid (HG3.out.below ((Below.refl _ _).alloc (Nat.le_refl _) (.cells #[.int .i64 x.f, .int .i64 x.t, .string x.s] 24)))
          clear hap
          go_wp2_with fail
          refine HAP2.out.mono ?_
          rintro e w5 ⟨rfl, hb5⟩
          have HB5 := Lib.hid (HB4.out.trans (hb5.mono HB4.out.size))
          have HG5 := Lib.hid (HG4.out.below hb5)
          clear hb5 x0 x1 x2
          have HS2 := Lib.hid (S2 w5 HG5.out).out
          clear AP2 S2
          go_wp2_with fail
          refine HS2.out.mono ?_
          rintro e w6 ⟨v, rfl, hO6, hb6⟩
          obtain ⟨A6, c6, rfl⟩ := own_len hO6
          have HB6 := Lib.hid (HB5.out.trans (hb6.mono HB5.out.size))
          have HO6 := Lib.hid (own_baseL hO6 HB5.out.size)
          clear hO6 hb6
          go_wp2
          go_ret3
          exact ⟨_, rfl, World.ownsRow_nil _ _ _ _, HB6.out⟩
      · rw [if_neg ha] at AP
        have hrE : resE s l x = applF s.size [x] := by unfold resE; rw [hro, if_neg (by decide), if_pos ha]
        have hrT : resT s l x = ⟨#[]⟩ := by unfold resT; rw [if_neg (by rw [hrE]; exact ha)]
        have hrL : resL s l x = [] := by unfold resL; rw [if_neg (by rw [hrE]; exact ha)]
        rw [hrE, hrT, hrL]
        generalize applF s.size [x] = E1 at *
        go_enter Tryz.func6, Tryz.ntmps6
        go_wp2_with fail
        refine HSC.out.mono ?_
        rintro e w2 ⟨v, rfl, hO, hb2⟩
        obtain ⟨A1, c1, rfl⟩ := own_len hO
        have hB2 := HB1.out.trans (hb2.mono HB1.out.size)
        have hz2 := zrd_of hO
        have hr2 : ZRd w2 w2.heap.size A l := (ZRd.below HR.out hB2).up hB2.size
        have hq2 := EQ w2 A1 c1 hz2 hr2
        have HQ2 := Lib.hid hq2.out
        have HG2 := Lib.hid (HG1.out.below hb2)
        have HBL2 := Lib.hid (Blk.below HBL.out hb2 HLT1.out)
        have HB2 := Lib.hid hB2
        have HLT2 := Lib.hid (Nat.lt_of_lt_of_le HLT1.out hb2.size)
        clear hO hb2 hB2 hz2 hr2 hq2 hro ok hE0 hrE hrT hrL SC hBL hG1 hB1 h hG hlt1 hsl hs hl hx EQ
        go_wp2_with fail
        refine HQ2.out.mono ?_
        rintro e w3 ⟨rfl, hb3⟩
        have HB3 := Lib.hid (HB2.out.trans (hb3.mono HB2.out.size))
        have HG3 := Lib.hid (HG2.out.below hb3)
        have HBL3 := Lib.hid (Blk.below HBL2.out hb3 HLT2.out)
        clear hb3
        have x0 := Blk.cell HBL3.out 0
        have x1 := Blk.cell HBL3.out 1
        have x2 := Blk.cell HBL3.out 2
        have hap := (AP (w3.alloc (.cells #[.int .i64 x.f, .int .i64 x.t, .string x.s] 24)) (.slice (some ⟨w3.heap.size, 0, none⟩) 1 1) (isE_one x w3)).out
        have HAP2 := Lib.hid hap
        have HB4 := Lib.hid (HB3.out.alloc HB3.out.size (.cells #[.int .i64 x.f, .int .i64 x.t, .string x.s] 24))
        have HG4 := Lib.hid (HG3.out.below ((Below.refl _ _).alloc (Nat.le_refl _) (.cells #[.int .i64 x.f, .int .i64 x.t, .string x.s] 24)))
        clear hap
        go_wp2_with fail
        refine HAP2.out.mono ?_
        rintro e w5 ⟨rfl, hb5⟩
        have HB5 := Lib.hid (HB4.out.trans (hb5.mono HB4.out.size))
        have HG5 := Lib.hid (HG4.out.below hb5)
        clear hb5 x0 x1 x2
        clear AP
        go_wp2
        go_ret3
        exact ⟨_, rfl, World.ownsRow_nil _ _ _ _, HB5.out⟩
    · have hro : resOk s l = false := by unfold resOk; rw [decide_eq_false hq, Bool.and_false]
      have EQ := fun W A1 c1 (g1 : ZRd W W.heap.size A1 ((scanL s).map toZ)) (g2 : ZRd W W.heap.size A l) => Lib.hid ((by have e := equalTz_any A1 A c1 c ((scanL s).map toZ) l W (by rw [List.length_map]; omega) hl g1 g2; rw [List.length_map] at e; exact e : Calls Tryz.prog 10 #[.slice A1 (scanL s).length c1, .slice A l.length c] W fun e w' => e = .returned (.bool (decide ((scanL s).map toZ = l))) ∧ Below W.heap.size W w'))
      rw [show decide ((scanL s).map toZ = l) = false from decide_eq_false (hq)] at EQ
      have hrE : resE s l x = 3 := by unfold resE; rw [if_pos hro]
      have hrT : resT s l x = ⟨#[]⟩ := by unfold resT; rw [if_neg (by rw [hrE]; decide)]
      have hrL : resL s l x = [] := by unfold resL; rw [if_neg (by rw [hrE]; decide)]
      rw [hrE, hrT, hrL]
      go_enter Tryz.func6, Tryz.ntmps6
      go_wp2_with fail
      refine HSC.out.mono ?_
      rintro e w2 ⟨v, rfl, hO, hb2⟩
      obtain ⟨A1, c1, rfl⟩ := own_len hO
      have hB2 := HB1.out.trans (hb2.mono HB1.out.size)
      have hz2 := zrd_of hO
      have hr2 : ZRd w2 w2.heap.size A l := (ZRd.below HR.out hB2).up hB2.size
      have hq2 := EQ w2 A1 c1 hz2 hr2
      have HQ2 := Lib.hid hq2.out
      have HG2 := Lib.hid (HG1.out.below hb2)
      have HBL2 := Lib.hid (Blk.below HBL.out hb2 HLT1.out)
      have HB2 := Lib.hid hB2
      have HLT2 := Lib.hid (Nat.lt_of_lt_of_le HLT1.out hb2.size)
      clear hO hb2 hB2 hz2 hr2 hq2 hro ok hE0 hrE hrT hrL SC hBL hG1 hB1 h hG hlt1 hsl hs hl hx hq EQ
      go_wp2_with fail
      refine HQ2.out.mono ?_
      rintro e w3 ⟨rfl, hb3⟩
      have HB3 := Lib.hid (HB2.out.trans (hb3.mono HB2.out.size))
      clear hb3
      go_wp2
      go_ret3
      exact ⟨_, rfl, World.ownsRow_nil _ _ _ _, HB3.out⟩
  · have hE0 : scanE s = 2 := by unfold scanE; rw [if_neg ok]
    have hro : resOk s l = false := by unfold resOk; rw [show scanOk s = false by simpa using ok, Bool.false_and]
    rw [hE0] at SC
    have HSC := Lib.hid SC
    have hrE : resE s l x = 3 := by unfold resE; rw [if_pos hro]
    have hrT : resT s l x = ⟨#[]⟩ := by unfold resT; rw [if_neg (by rw [hrE]; decide)]
    have hrL : resL s l x = [] := by unfold resL; rw [if_neg (by rw [hrE]; decide)]
    rw [hrE, hrT, hrL]
    go_enter Tryz.func6, Tryz.ntmps6
    go_wp2_with fail
    refine HSC.out.mono ?_
    rintro e w2 ⟨v, rfl, hO, hb2⟩
    have HB2 := Lib.hid (HB1.out.trans (hb2.mono HB1.out.size))
    obtain ⟨A1, c1, rfl⟩ := own_len hO
    clear hO hb2 hro ok hE0 hrE hrT hrL SC hBL hG1 hB1 h hG hlt1 hsl hs hl hx
    go_wp2
    go_ret3
    exact ⟨_, rfl, World.ownsRow_nil _ _ _ _, HB2.out⟩

set_option maxHeartbeats 8000000 in
set_option maxRecDepth 100000 in
theorem refRescan_any (n0 : Nat) (s : ByteArray) (A : Option Addr) (c : Nat) (l : List Tz) (x : Ed) (w : World) (hs : s.size ≤ 1048576) (hl : l.length ≤ 1048576) (hx : x.s.size ≤ 1048576) (h : ZRd w w.heap.size A l) (hG : LexG n0 w) :
    Calls Tryz.prog 7 #[.string s, .slice A l.length c, .agg #[.int .i64 x.f, .int .i64 x.t, .string x.s]] w fun e w' => ∃ v, e = .returned (.tuple #[.string (resT s l x), v, .int .i64 (resE s l x)]) ∧ w'.ownsRow w.heap.size 33 4 v (resL s l x).length (cellsT (resL s l x)) ∧ Below w.heap.size w w' := by
  have hG1 : LexG n0 (w.alloc (.cells #[.int .i64 x.f, .int .i64 x.t, .string x.s] 24)) := hG.below ((Below.refl _ _).alloc (Nat.le_refl _) _)
  have hBL : Blk (w.alloc (.cells #[.int .i64 x.f, .int .i64 x.t, .string x.s] 24)) w.heap.size 24 #[.int .i64 x.f, .int .i64 x.t, .string x.s] := Blk.new w _ _
  have hB1 : Below w.heap.size w (w.alloc (.cells #[.int .i64 x.f, .int .i64 x.t, .string x.s] 24)) := (Below.refl _ _).alloc (Nat.le_refl _) _
  have SC := refScan_any s (w.alloc (.cells #[.int .i64 x.f, .int .i64 x.t, .string x.s] 24)) (by omega)
  have HR := Lib.hid h
  have HG1 := Lib.hid hG1
  have HBL := Lib.hid hBL
  have HB1 := Lib.hid hB1
  have hlt1 : w.heap.size < (w.alloc (.cells #[.int .i64 x.f, .int .i64 x.t, .string x.s] 24)).heap.size := by simp
  have HLT1 := Lib.hid hlt1
  have hsl := scanL_len s
  by_cases ok : scanOk s = true
  · have hE0 : scanE s = 0 := by unfold scanE; rw [if_pos ok]
    rw [hE0] at SC
    have HSC := Lib.hid SC
    by_cases hq : (scanL s).map toZ = l
    · have hro : resOk s l = true := by unfold resOk; rw [ok, decide_eq_true hq]; rfl
      have EQ := fun W A1 c1 (g1 : ZRd W W.heap.size A1 ((scanL s).map toZ)) (g2 : ZRd W W.heap.size A l) => Lib.hid ((by have e := eqTz_any A A1 c c1 l ((scanL s).map toZ) W hl (by rw [List.length_map]; omega) g2 g1; rw [List.length_map] at e; exact e : Calls Tryz.prog 8 #[.slice A l.length c, .slice A1 (scanL s).length c1] W fun e w' => e = .returned (.bool (decide (l = (scanL s).map toZ))) ∧ Below W.heap.size W w'))
      have AP := fun W v (g : IsE W v [x]) => Lib.hid (refApply_any s v [x] W (by omega) (by simp) (fun y hy => by rw [show y = x by simpa using hy]; omega) g)
      rw [show decide (l = (scanL s).map toZ) = true by simp [hq]] at EQ
      by_cases ha : applF s.size [x] = 0
      · rw [if_pos ha, ha] at AP
        have AP2 : ∀ W v, IsE W v [x] → Hid (Calls Tryz.prog 13 #[.string s, v] W fun e w' => e = .returned (.tuple #[.string (behind s [x]), .int .i64 0]) ∧ Below W.heap.size W w') := AP
        have hrE : resE s l x = (scanE (behind s [x]) : Nat) := by unfold resE; rw [hro, if_neg (by decide), if_neg (fun g => g ha)]
        have S2 := fun W (g : LexG n0 W) => Lib.hid (refScan_any (behind s [x]) W (by have := behind_small s x ha; omega))
        by_cases ok2 : scanOk (behind s [x]) = true
        · have hE2 : scanE (behind s [x]) = 0 := by unfold scanE; rw [if_pos ok2]
          rw [hE2] at hrE S2
          have hrT : resT s l x = behind s [x] := by unfold resT; rw [if_pos (show resE s l x = 0 from hrE)]
          have hrL : resL s l x = scanL (behind s [x]) := by unfold resL; rw [if_pos (show resE s l x = 0 from hrE)]
          rw [hrE, hrT, hrL]
          generalize behind s [x] = T at *
          go_enter Tryz.func7, Tryz.ntmps7
          go_wp2_with fail
          refine HSC.out.mono ?_
          rintro e w2 ⟨v, rfl, hO, hb2⟩
          obtain ⟨A1, c1, rfl⟩ := own_len hO
          have hB2 := HB1.out.trans (hb2.mono HB1.out.size)
          have hz2 := zrd_of hO
          have hr2 : ZRd w2 w2.heap.size A l := (ZRd.below HR.out hB2).up hB2.size
          have hq2 := EQ w2 A1 c1 hz2 hr2
          have HQ2 := Lib.hid hq2.out
          have HG2 := Lib.hid (HG1.out.below hb2)
          have HBL2 := Lib.hid (Blk.below HBL.out hb2 HLT1.out)
          have HB2 := Lib.hid hB2
          have HLT2 := Lib.hid (Nat.lt_of_lt_of_le HLT1.out hb2.size)
          clear hO hb2 hB2 hz2 hr2 hq2 hro ok hE0 hE2 ok2 hrE hrT hrL SC hBL hG1 hB1 h hG hlt1 hsl hs hl hx EQ AP ha
          go_wp2_with fail
          refine HQ2.out.mono ?_
          rintro e w3 ⟨rfl, hb3⟩
          have HB3 := Lib.hid (HB2.out.trans (hb3.mono HB2.out.size))
          have HG3 := Lib.hid (HG2.out.below hb3)
          have HBL3 := Lib.hid (Blk.below HBL2.out hb3 HLT2.out)
          clear hb3
          have x0 := Blk.cell HBL3.out 0
          have x1 := Blk.cell HBL3.out 1
          have x2 := Blk.cell HBL3.out 2
          have hap := (AP2 (w3.alloc (.cells #[.int .i64 x.f, .int .i64 x.t, .string x.s] 24)) (.slice (some ⟨w3.heap.size, 0, none⟩) 1 1) (isE_one x w3)).out
          have HAP2 := Lib.hid hap
          have HB4 := Lib.hid (HB3.out.alloc HB3.out.size (.cells #[.int .i64 x.f, .int .i64 x.t, .string x.s] 24))
          have HG4 := Lib.hid (HG3.out.below ((Below.refl _ _).alloc (Nat.le_refl _) (.cells #[.int .i64 x.f, .int .i64 x.t, .string x.s] 24)))
          clear hap
          go_wp2_with fail
          refine HAP2.out.mono ?_
          rintro e w5 ⟨rfl, hb5⟩
          have HB5 := Lib.hid (HB4.out.trans (hb5.mono HB4.out.size))
          have HG5 := Lib.hid (HG4.out.below hb5)
          clear hb5 x0 x1 x2
          have HS2 := Lib.hid (S2 w5 HG5.out).out
          clear AP2 S2
          go_wp2_with fail
          refine HS2.out.mono ?_
          rintro e w6 ⟨v, rfl, hO6, hb6⟩
          obtain ⟨A6, c6, rfl⟩ := own_len hO6
          have HB6 := Lib.hid (HB5.out.trans (hb6.mono HB5.out.size))
          have HO6 := Lib.hid (own_baseL hO6 HB5.out.size)
          clear hO6 hb6
          go_wp2
          go_ret3
          exact ⟨_, rfl, HO6.out, HB6.out⟩
        · have hE2 : scanE (behind s [x]) = 2 := by unfold scanE; rw [if_neg ok2]
          rw [hE2] at hrE S2
          have hrT : resT s l x = ⟨#[]⟩ := by unfold resT; rw [if_neg (by rw [hrE]; decide)]
          have hrL : resL s l x = [] := by unfold resL; rw [if_neg (by rw [hrE]; decide)]
          rw [hrE, hrT, hrL]
          generalize behind s [x] = T at *
          go_enter Tryz.func7, Tryz.ntmps7
          go_wp2_with fail
          refine HSC.out.mono ?_
          rintro e w2 ⟨v, rfl, hO, hb2⟩
          obtain ⟨A1, c1, rfl⟩ := own_len hO
          have hB2 := HB1.out.trans (hb2.mono HB1.out.size)
          have hz2 := zrd_of hO
          have hr2 : ZRd w2 w2.heap.size A l := (ZRd.below HR.out hB2).up hB2.size
          have hq2 := EQ w2 A1 c1 hz2 hr2
          have HQ2 := Lib.hid hq2.out
          have HG2 := Lib.hid (HG1.out.below hb2)
          have HBL2 := Lib.hid (Blk.below HBL.out hb2 HLT1.out)
          have HB2 := Lib.hid hB2
          have HLT2 := Lib.hid (Nat.lt_of_lt_of_le HLT1.out hb2.size)
          clear hO hb2 hB2 hz2 hr2 hq2 hro ok hE0 hE2 ok2 hrE hrT hrL SC hBL hG1 hB1 h hG hlt1 hsl hs hl hx EQ AP ha
          go_wp2_with fail
          refine HQ2.out.mono ?_
          rintro e w3 ⟨rfl, hb3⟩
          have HB3 := Lib.hid (HB2.out.trans (hb3.mono HB2.out.size))
          have HG3 := Lib.hid (HG2.out.below hb3)
          have HBL3 := Lib.hid (Blk.below HBL2.out hb3 HLT2.out)
          clear hb3
          have x0 := Blk.cell HBL3.out 0
          have x1 := Blk.cell HBL3.out 1
          have x2 := Blk.cell HBL3.out 2
          have hap := (AP2 (w3.alloc (.cells #[.int .i64 x.f, .int .i64 x.t, .string x.s] 24)) (.slice (some ⟨w3.heap.size, 0, none⟩) 1 1) (isE_one x w3)).out
          have HAP2 := Lib.hid hap
          have HB4 := Lib.hid (HB3.out.alloc HB3.out.size (.cells #[.int .i64 x.f, .int .i64 x.t, .string x.s] 24))
          have HG4 := Lib.hid (HG3.out.below ((Below.refl _ _).alloc (Nat.le_refl _) (.cells #[.int .i64 x.f, .int .i64 x.t, .string x.s] 24)))
          clear hap
          go_wp2_with fail
          refine HAP2.out.mono ?_
          rintro e w5 ⟨rfl, hb5⟩
          have HB5 := Lib.hid (HB4.out.trans (hb5.mono HB4.out.size))
          have HG5 := Lib.hid (HG4.out.below hb5)
          clear hb5 x0 x1 x2
          have HS2 := Lib.hid (S2 w5 HG5.out).out
          clear AP2 S2
          go_wp2_with fail
          refine HS2.out.mono ?_
          rintro e w6 ⟨v, rfl, hO6, hb6⟩
          obtain ⟨A6, c6, rfl⟩ := own_len hO6
          have HB6 := Lib.hid (HB5.out.trans (hb6.mono HB5.out.size))
          have HO6 := Lib.hid (own_baseL hO6 HB5.out.size)
          clear hO6 hb6
          go_wp2
          go_ret3
          exact ⟨_, rfl, World.ownsRow_nil _ _ _ _, HB6.out⟩
      · rw [if_neg ha] at AP
        have hrE : resE s l x = applF s.size [x] := by unfold resE; rw [hro, if_neg (by decide), if_pos ha]
        have hrT : resT s l x = ⟨#[]⟩ := by unfold resT; rw [if_neg (by rw [hrE]; exact ha)]
        have hrL : resL s l x = [] := by unfold resL; rw [if_neg (by rw [hrE]; exact ha)]
        rw [hrE, hrT, hrL]
        generalize applF s.size [x] = E1 at *
        go_enter Tryz.func7, Tryz.ntmps7
        go_wp2_with fail
        refine HSC.out.mono ?_
        rintro e w2 ⟨v, rfl, hO, hb2⟩
        obtain ⟨A1, c1, rfl⟩ := own_len hO
        have hB2 := HB1.out.trans (hb2.mono HB1.out.size)
        have hz2 := zrd_of hO
        have hr2 : ZRd w2 w2.heap.size A l := (ZRd.below HR.out hB2).up hB2.size
        have hq2 := EQ w2 A1 c1 hz2 hr2
        have HQ2 := Lib.hid hq2.out
        have HG2 := Lib.hid (HG1.out.below hb2)
        have HBL2 := Lib.hid (Blk.below HBL.out hb2 HLT1.out)
        have HB2 := Lib.hid hB2
        have HLT2 := Lib.hid (Nat.lt_of_lt_of_le HLT1.out hb2.size)
        clear hO hb2 hB2 hz2 hr2 hq2 hro ok hE0 hrE hrT hrL SC hBL hG1 hB1 h hG hlt1 hsl hs hl hx EQ
        go_wp2_with fail
        refine HQ2.out.mono ?_
        rintro e w3 ⟨rfl, hb3⟩
        have HB3 := Lib.hid (HB2.out.trans (hb3.mono HB2.out.size))
        have HG3 := Lib.hid (HG2.out.below hb3)
        have HBL3 := Lib.hid (Blk.below HBL2.out hb3 HLT2.out)
        clear hb3
        have x0 := Blk.cell HBL3.out 0
        have x1 := Blk.cell HBL3.out 1
        have x2 := Blk.cell HBL3.out 2
        have hap := (AP (w3.alloc (.cells #[.int .i64 x.f, .int .i64 x.t, .string x.s] 24)) (.slice (some ⟨w3.heap.size, 0, none⟩) 1 1) (isE_one x w3)).out
        have HAP2 := Lib.hid hap
        have HB4 := Lib.hid (HB3.out.alloc HB3.out.size (.cells #[.int .i64 x.f, .int .i64 x.t, .string x.s] 24))
        have HG4 := Lib.hid (HG3.out.below ((Below.refl _ _).alloc (Nat.le_refl _) (.cells #[.int .i64 x.f, .int .i64 x.t, .string x.s] 24)))
        clear hap
        go_wp2_with fail
        refine HAP2.out.mono ?_
        rintro e w5 ⟨rfl, hb5⟩
        have HB5 := Lib.hid (HB4.out.trans (hb5.mono HB4.out.size))
        have HG5 := Lib.hid (HG4.out.below hb5)
        clear hb5 x0 x1 x2
        clear AP
        go_wp2
        go_ret3
        exact ⟨_, rfl, World.ownsRow_nil _ _ _ _, HB5.out⟩
    · have hro : resOk s l = false := by unfold resOk; rw [decide_eq_false hq, Bool.and_false]
      have EQ := fun W A1 c1 (g1 : ZRd W W.heap.size A1 ((scanL s).map toZ)) (g2 : ZRd W W.heap.size A l) => Lib.hid ((by have e := eqTz_any A A1 c c1 l ((scanL s).map toZ) W hl (by rw [List.length_map]; omega) g2 g1; rw [List.length_map] at e; exact e : Calls Tryz.prog 8 #[.slice A l.length c, .slice A1 (scanL s).length c1] W fun e w' => e = .returned (.bool (decide (l = (scanL s).map toZ))) ∧ Below W.heap.size W w'))
      rw [show decide (l = (scanL s).map toZ) = false from decide_eq_false (fun g => hq g.symm)] at EQ
      have hrE : resE s l x = 3 := by unfold resE; rw [if_pos hro]
      have hrT : resT s l x = ⟨#[]⟩ := by unfold resT; rw [if_neg (by rw [hrE]; decide)]
      have hrL : resL s l x = [] := by unfold resL; rw [if_neg (by rw [hrE]; decide)]
      rw [hrE, hrT, hrL]
      go_enter Tryz.func7, Tryz.ntmps7
      go_wp2_with fail
      refine HSC.out.mono ?_
      rintro e w2 ⟨v, rfl, hO, hb2⟩
      obtain ⟨A1, c1, rfl⟩ := own_len hO
      have hB2 := HB1.out.trans (hb2.mono HB1.out.size)
      have hz2 := zrd_of hO
      have hr2 : ZRd w2 w2.heap.size A l := (ZRd.below HR.out hB2).up hB2.size
      have hq2 := EQ w2 A1 c1 hz2 hr2
      have HQ2 := Lib.hid hq2.out
      have HG2 := Lib.hid (HG1.out.below hb2)
      have HBL2 := Lib.hid (Blk.below HBL.out hb2 HLT1.out)
      have HB2 := Lib.hid hB2
      have HLT2 := Lib.hid (Nat.lt_of_lt_of_le HLT1.out hb2.size)
      clear hO hb2 hB2 hz2 hr2 hq2 hro ok hE0 hrE hrT hrL SC hBL hG1 hB1 h hG hlt1 hsl hs hl hx hq EQ
      go_wp2_with fail
      refine HQ2.out.mono ?_
      rintro e w3 ⟨rfl, hb3⟩
      have HB3 := Lib.hid (HB2.out.trans (hb3.mono HB2.out.size))
      clear hb3
      go_wp2
      go_ret3
      exact ⟨_, rfl, World.ownsRow_nil _ _ _ _, HB3.out⟩
  · have hE0 : scanE s = 2 := by unfold scanE; rw [if_neg ok]
    have hro : resOk s l = false := by unfold resOk; rw [show scanOk s = false by simpa using ok, Bool.false_and]
    rw [hE0] at SC
    have HSC := Lib.hid SC
    have hrE : resE s l x = 3 := by unfold resE; rw [if_pos hro]
    have hrT : resT s l x = ⟨#[]⟩ := by unfold resT; rw [if_neg (by rw [hrE]; decide)]
    have hrL : resL s l x = [] := by unfold resL; rw [if_neg (by rw [hrE]; decide)]
    rw [hrE, hrT, hrL]
    go_enter Tryz.func7, Tryz.ntmps7
    go_wp2_with fail
    refine HSC.out.mono ?_
    rintro e w2 ⟨v, rfl, hO, hb2⟩
    have HB2 := Lib.hid (HB1.out.trans (hb2.mono HB1.out.size))
    obtain ⟨A1, c1, rfl⟩ := own_len hO
    clear hO hb2 hro ok hE0 hrE hrT hrL SC hBL hG1 hB1 h hG hlt1 hsl hs hl hx
    go_wp2
    go_ret3
    exact ⟨_, rfl, World.ownsRow_nil _ _ _ _, HB2.out⟩

theorem resL_len (s : ByteArray) (l : List Tz) (x : Ed) : (resL s l x).length ≤ 40000 := by
  unfold resL
  by_cases h : resE s l x = 0
  · rw [if_pos h]; exact scanL_len _
  · rw [if_neg h]; exact Nat.zero_le _

set_option maxHeartbeats 8000000 in
set_option maxRecDepth 100000 in
theorem lexRescans_any (n0 : Nat) (s : ByteArray) (A : Option Addr) (c : Nat) (l : List Tz) (x : Ed) (w : World) (hs : s.size ≤ 1048576) (hl : l.length ≤ 1048576) (hsz : sumZ l ≤ 1048576) (hx : x.s.size ≤ 1048576) (h : ZRd w w.heap.size A l) (hG : LexG n0 w) :
    Calls Tryz.prog 3 #[.string s, .slice A l.length c, .agg #[.int .i64 x.f, .int .i64 x.t, .string x.s]] w fun e w' => e = .returned (.bool true) ∧ Below w.heap.size w w' := by
  have AW := fun W (h : LexG n0 W) => Lib.hid (awakeL_any n0 W h)
  have hB1 : Below w.heap.size w (w.alloc (.cells #[.int .i64 x.f, .int .i64 x.t, .string x.s] 24)) := (Below.refl _ _).alloc (Nat.le_refl _) _
  have hBL : Blk (w.alloc (.cells #[.int .i64 x.f, .int .i64 x.t, .string x.s] 24)) w.heap.size 24 #[.int .i64 x.f, .int .i64 x.t, .string x.s] := Blk.new w _ _
  have hlt1 : w.heap.size < (w.alloc (.cells #[.int .i64 x.f, .int .i64 x.t, .string x.s] 24)).heap.size := by simp
  have hup : ∀ W, Below w.heap.size w W → ZRd W W.heap.size A l := fun W g => (h.below g).up g.size
  have LO := long_any A c l _ hl hsz (hup _ hB1)
  have RP := fun W (g : ZRd W W.heap.size A l) (g2 : LexG n0 W) => Lib.hid (lexRescan_any n0 s A c l x W hs hl hx g g2)
  have RR := fun W (g : ZRd W W.heap.size A l) (g2 : LexG n0 W) => Lib.hid (refRescan_any n0 s A c l x W hs hl hx g g2)
  have hLl := resL_len s l x
  generalize resL s l x = L at *
  generalize resT s l x = T at *
  generalize resE s l x = E at *
  have HAW := Lib.hid AW
  have HG := Lib.hid hG
  have HB1 := Lib.hid hB1
  have HBL := Lib.hid hBL
  have HLT1 := Lib.hid hlt1
  have HUP := Lib.hid hup
  have HRP := Lib.hid RP
  have HRR := Lib.hid RR
  have HLL := Lib.hid hLl
  cases hb : (decide (40100 < l.length) || decide (200100 < sumZ l))
  · rw [hb] at LO
    have HLO := Lib.hid LO
    clear AW hB1 hBL hlt1 hup LO RP RR hLl hG h hs hl hsz hx hb
    go_enter Tryz.func3, Tryz.ntmps3
    go_wp2_with fail
    refine HLO.out.mono ?_
    rintro e w2 ⟨rfl, hb2⟩
    have HB2 := Lib.hid (HB1.out.trans (hb2.mono HB1.out.size))
    have HBL2 := Lib.hid (Blk.below HBL.out hb2 HLT1.out)
    have HLT2 := Lib.hid (Nat.lt_of_lt_of_le HLT1.out hb2.size)
    clear hb2
    have x0 := Blk.cell HBL2.out 0
    have x1 := Blk.cell HBL2.out 1
    have x2 := Blk.cell HBL2.out 2
    go_wp2_with fail
    refine (HRP.out w2 (HUP.out w2 HB2.out) (HG.out.below HB2.out)).out.mono ?_
    rintro e w3 ⟨v, rfl, hO3, hb3⟩
    obtain ⟨A3, c3, rfl⟩ := own_len hO3
    have HB3 := Lib.hid (HB2.out.trans (hb3.mono HB2.out.size))
    have HBL3 := Lib.hid (Blk.below HBL2.out hb3 HLT2.out)
    have HR3 := Lib.hid (show TRd w3 w3.heap.size A3 L from Rd.of_own hO3)
    clear hO3 hb3 x0 x1 x2
    have x0 := Blk.cell HBL3.out 0
    have x1 := Blk.cell HBL3.out 1
    have x2 := Blk.cell HBL3.out 2
    go_wp2_with fail
    refine (HRR.out w3 (HUP.out w3 HB3.out) (HG.out.below HB3.out)).out.mono ?_
    rintro e w4 ⟨v, rfl, hO4, hb4⟩
    obtain ⟨A4, c4, rfl⟩ := own_len hO4
    have hR4 : TRd w4 w4.heap.size A4 L := Rd.of_own hO4
    have hR34 : TRd w4 w4.heap.size A3 L := (Rd.below HR3.out hb4).more hb4.size
    have HB4 := Lib.hid (HB3.out.trans (hb4.mono HB3.out.size))
    have hq := eqTok_any A3 A4 c3 c4 L L w4 (by have := HLL.out; omega) (by have := HLL.out; omega) hR34 hR4
    rw [show decide (L = L) = true by simp] at hq
    have HQ := Lib.hid hq
    clear hO4 hb4 hR4 hR34 hq x0 x1 x2
    go_wp2_with fail
    refine HQ.out.mono ?_
    rintro e w5 ⟨rfl, hb5⟩
    have HB5 := Lib.hid (HB4.out.trans (hb5.mono HB4.out.size))
    clear hb5
    go_wp2_with fail
    refine (HAW.out _ (HG.out.below HB5.out)).out.mono ?_
    rintro e w6 ⟨rfl, hb6⟩
    have HB6 := Lib.hid (HB5.out.trans (hb6.mono HB5.out.size))
    clear hb6
    go_wp2
    go_ret
    exact ⟨rfl, HB6.out⟩
  · rw [hb] at LO
    have HLO := Lib.hid LO
    clear AW hB1 hBL hlt1 hup LO RP RR hLl hG h hs hl hsz hx hb
    go_enter Tryz.func3, Tryz.ntmps3
    go_wp2_with fail
    refine HLO.out.mono ?_
    rintro e w2 ⟨rfl, hb2⟩
    have HB2 := Lib.hid (HB1.out.trans (hb2.mono HB1.out.size))
    clear hb2
    go_wp2_with fail
    refine (HAW.out _ (HG.out.below HB2.out)).out.mono ?_
    rintro e w6 ⟨rfl, hb6⟩
    have HB6 := Lib.hid (HB2.out.trans (hb6.mono HB2.out.size))
    clear hb6
    go_wp2
    go_ret
    exact ⟨rfl, HB6.out⟩

end Go.Proofs.YtihnafocjognaaaGreatDoor
