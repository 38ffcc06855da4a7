/- Lex: At over any tokens, the program's and the document's. -/
import Derived.Test.YtihnafocjognaaaDoorTz
namespace Go.Proofs.YtihnafocjognaaaDoor
open Go.RowKit Go.Maps Go.Shelf

set_option maxHeartbeats 8000000 in
set_option maxRecDepth 100000 in
theorem wholeSizeZ_any (A : Option Addr) (c : Nat) (l : List Tz) (w : World) (hl : l.length ≤ 40100) (hs : sumZ l ≤ 200100) (h : ZRd w w.heap.size A l) :
    Calls Tryd.prog 23 #[.slice A l.length c] w fun e w' => (∃ v : Int, e = .returned (.tuple #[.int .i64 v, .bool (wholeZ l)]) ∧ (wholeZ l = true → v = sumZ l)) ∧ Below w.heap.size w w' := by
  have HR := Lib.hid h
  have hlI : (l.length : Int) ≤ 40100 := by omega
  have hp : ∀ i, (begZ l i : Int) ≤ 200100 := fun i => by have := begZ_le l i; omega
  have HP := Lib.hid hp
  obtain ⟨V, hV⟩ : ∃ V, V = wholeZ l := ⟨_, rfl⟩
  rw [← hV]
  have HV := Lib.hid hV
  by_cases h0 : l.length = 0
  · have hv : V = false := by
      rw [hV, List.eq_nil_of_length_eq_zero h0]; rfl
    have hvI : (l.length : Int) = 0 := by omega
    have HVV := Lib.hid hv
    clear h hl hs hp hV hv h0 hlI
    go_enter Tryd.func23, Tryd.ntmps23
    go_wp2_with fail
    go_loopw [2, 12] (fun sz i wr => sz = .int .i64 0 ∧ i = .int .i64 0 ∧ Hid (Below w.heap.size w wr)) (fun _ _ _ => 0)
    case atStart => exact ⟨rfl, rfl, Below.refl _ _⟩
    case round =>
      obtain ⟨rfl, rfl, hb⟩ := hrel
      go_wp2
      go_quiet (fail)
      go_wp2
      go_ret2
      exact ⟨⟨0, by rw [HVV.out]; rfl, fun e => absurd (HVV.out.symm.trans e) (by decide)⟩, ⟨hb.out.os, hb.out.tape, hb.out.output, hb.out.size, hb.out.block⟩⟩
  · obtain ⟨kl, hkl⟩ : ∃ k, l.length = k + 1 := ⟨l.length - 1, by omega⟩
    have hklI : (l.length : Int) - 1 = kl := by omega
    have hkl0 : (0 : Int) < l.length := by omega
    have hkll : kl < l.length := by omega
    have hklb : (kl : Int) ≤ 40100 := by omega
    have HL1 := Lib.hid hkl
    clear h hl hs hp hV h0
    go_enter Tryd.func23, Tryd.ntmps23
    go_wp2_with fail
    go_loopw [2, 12] (fun sz vi wr => ∃ i : Nat, i ≤ l.length ∧ sz = .int .i64 (begZ l i : Nat) ∧ vi = .int .i64 i ∧ Hid (okZ (begZ l i) (l.drop i) = okZ 0 l) ∧ Hid (Below w.heap.size w wr)) (fun _ vi _ => l.length - (intOf vi).toNat)
    case atStart => exact ⟨0, Nat.zero_le _, rfl, rfl, rfl, Below.refl _ _⟩
    case round =>
      obtain ⟨i, hi, rfl, rfl, hok, hb⟩ := hrel
      have hpi := HP.out i
      by_cases hlt : i < l.length
      · have hltI : (i : Int) < l.length := by omega
        obtain ⟨b, off, eA, hB, c0, c1, c2, c3⟩ := (HR.out.below hb.out).at_ i hlt
        cases eA
        have hst := begZ_succ l i hlt
        have hpi2 := HP.out (i + 1)
        have hos := okZ_step l i hlt
        rw [hok.out] at hos
        have hend : decide (i + 1 = l.length) = decide (i = kl) := by
          have := HL1.out
          rw [decide_eq_decide]; omega
        rw [hend] at hos
        have hHB := hb.out
        have hsz := hHB.size
        generalize hq : begZ l (i + 1) = q at *
        generalize hpp : begZ l i = p at *
        generalize l[i].b = tb at *
        generalize l[i].x = tx at *
        generalize l[i].a = ta at *
        generalize l[i].k = tk at *
        have hb1 : (tb.size : Int) ≤ 200100 := by omega
        have hb2 : (tx.size : Int) ≤ 200100 := by omega
        have hqI : (p : Int) + tb.size + tx.size = q := by omega
        have HQ := Lib.hid hq
        have HOS := Lib.hid hos
        have hfalse : okZ 0 l = false → V = false := fun e => by rw [HV.out]; unfold wholeZ; rw [e]; rfl
        have HFA := Lib.hid hfalse
        by_cases g1 : ta = (p : Int) + tb.size
        · have g1B : (ta != (p : Int) + tb.size) = false := by simp [g1]
          by_cases g2 : tk = 0
          · by_cases g3 : i = kl
            · have hos2 : okZ q (l.drop (i + 1)) = okZ 0 l := by
                rw [hos, decide_eq_true (by omega), decide_eq_true g2, decide_eq_true g3]; rfl
              subst g1
              subst g2
              subst g3
              have HO2 := Lib.hid hos2
              clear hst hq hpp hos hos2 hok hfalse hHB hB hend
              go_wp2
              go_roundw
              case rel => exact ⟨i + 1, by omega, by first | (rw [HQ.out]; done) | (rw [HQ.out]; go_num), by go_num, by unfold Hid; rw [HQ.out]; exact HO2.out, hb.out.alloc hsz _⟩
              case measure => simp [intOf]; omega
            · have hos2 : okZ 0 l = false := by
                rw [hos, decide_eq_true g2, decide_eq_false g3]; simp
              have g3I : ¬ (i : Int) = kl := by omega
              have g3B : ((i : Int) == (kl : Int)) = false := by simpa using g3I
              subst g1
              subst g2
              have HVV := Lib.hid (hfalse hos2)
              clear hst hq hpp hos hos2 hok hfalse hHB hB hend g3
              go_wp2
              go_ret2
              exact ⟨⟨0, by first | (rw [HVV.out]; done) | (rw [HVV.out]; rfl), fun e => absurd (HVV.out.symm.trans e) (by decide)⟩, hb.out.alloc hsz _⟩
          · have g2B : (tk == 0) = false := by simpa using g2
            by_cases g3 : i = kl
            · have hos2 : okZ 0 l = false := by
                rw [hos, decide_eq_false g2, decide_eq_true g3]; simp
              subst g1
              subst g3
              have HVV := Lib.hid (hfalse hos2)
              clear hst hq hpp hos hos2 hok hfalse hHB hB hend
              go_wp2
              go_ret2
              exact ⟨⟨0, by first | (rw [HVV.out]; done) | (rw [HVV.out]; rfl), fun e => absurd (HVV.out.symm.trans e) (by decide)⟩, hb.out.alloc hsz _⟩
            · have hos2 : okZ q (l.drop (i + 1)) = okZ 0 l := by
                rw [hos, decide_eq_true (by omega), decide_eq_false g2, decide_eq_false g3]; rfl
              have g3I : ¬ (i : Int) = kl := by omega
              have g3B : ((i : Int) == (kl : Int)) = false := by simpa using g3I
              subst g1
              have HO2 := Lib.hid hos2
              clear hst hq hpp hos hos2 hok hfalse hHB hB hend g3
              go_wp2
              go_roundw
              case rel => exact ⟨i + 1, by omega, by first | (rw [HQ.out]; done) | (rw [HQ.out]; go_num), by go_num, by unfold Hid; rw [HQ.out]; exact HO2.out, hb.out.alloc hsz _⟩
              case measure => simp [intOf]; omega
        · have g1B : (ta == (p : Int) + tb.size) = false := by simpa using g1
          have g1C : (ta != (p : Int) + tb.size) = true := by simpa using g1
          have hos2 : okZ 0 l = false := by
            rw [hos, decide_eq_false (by omega)]; simp
          have HVV := Lib.hid (hfalse hos2)
          clear hst hq hpp hos hos2 hok hfalse hHB hB hend
          go_wp2
          go_ret2
          exact ⟨⟨0, by first | (rw [HVV.out]; done) | (rw [HVV.out]; rfl), fun e => absurd (HVV.out.symm.trans e) (by decide)⟩, hb.out.alloc hsz _⟩
      · obtain rfl : i = l.length := by omega
        have hni : ¬ (l.length : Int) < l.length := by omega
        rw [List.drop_length, okZ] at hok
        rw [begZ_all] at *
        obtain ⟨b, off, eA, hB, c0, c1, c2, c3⟩ := (HR.out.below hb.out).at_ kl hkll
        cases eA
        have hlz := lastZ_at l kl HL1.out
        have hv0 : V = lastZ l := by rw [HV.out]; unfold wholeZ; rw [← hok.out]; rfl
        rw [hlz] at hv0
        generalize l[kl].x = tx at *
        by_cases g : tx = ByteArray.empty
        · rw [decide_eq_true g] at hv0
          have HVV := Lib.hid hv0
          have g' : tx = (⟨#[]⟩ : ByteArray) := g
          subst g'
          clear g hv0 hlz hok hlt c0 c1 c3
          go_wp2
          go_quiet (fail)
          go_wp2
          go_ret2
          exact ⟨⟨_, by first | (rw [HVV.out]; done) | (rw [HVV.out]; rfl), fun _ => rfl⟩, ⟨hb.out.os, hb.out.tape, hb.out.output, hb.out.size, hb.out.block⟩⟩
        · rw [decide_eq_false g] at hv0
          have HVV := Lib.hid hv0
          have hE := emptyF tx (Nat.pos_of_ne_zero (fun e => g (ByteArray.size_eq_zero_iff.1 e)))
          clear g hv0 hlz hok hlt c0 c1 c3
          go_wp2
          go_quiet (fail)
          go_wp2
          go_ret2
          exact ⟨⟨_, by first | (rw [HVV.out]; done) | (rw [HVV.out]; rfl), fun e => absurd (HVV.out.symm.trans e) (by decide)⟩, ⟨hb.out.os, hb.out.tape, hb.out.output, hb.out.size, hb.out.block⟩⟩

end Go.Proofs.YtihnafocjognaaaDoor
