/- Lex, in the document: At over any tokens. -/
import Derived.Test.YtihnafocjognaaaDoorTzB
namespace Go.Proofs.YtihnafocjognaaaDoor
open Go.RowKit Go.Maps Go.Shelf

set_option maxHeartbeats 8000000 in
set_option maxRecDepth 100000 in
theorem refAtZ_any (A : Option Addr) (c : Nat) (l : List Tz) (at_ : Int) (w : World) (hl : l.length ≤ 40100) (hs : sumZ l ≤ 200100) (h : ZRd w w.heap.size A l) :
    Calls Tryd.prog 13 #[.slice A l.length c, .int .i64 at_] w fun e w' => (∃ r E : Int, e = .returned (.tuple #[.int .i64 r, .int .i64 E]) ∧ AtP l at_ r E) ∧ Below w.heap.size w w' := by
  have HR := Lib.hid h
  have hlI : (l.length : Int) ≤ 40100 := by omega
  have hp : ∀ i, (begZ l i : Int) ≤ 200100 := fun i => by have := begZ_le l i; omega
  have HP := Lib.hid hp
  obtain ⟨V, hV⟩ : ∃ V, V = wholeZ l := ⟨_, rfl⟩
  have HV := Lib.hid hV
  by_cases h0 : l.length = 0
  · have hv : V = false := by
      rw [hV, List.eq_nil_of_length_eq_zero h0]; rfl
    have hvI : (l.length : Int) = 0 := by omega
    have HVV := Lib.hid hv
    clear h hl hs hp hV hv h0 hlI
    go_enter Tryd.func13, Tryd.ntmps13
    go_wp2
    go_ret2
    exact ⟨⟨0, 3, rfl, .inl ⟨HV.out.symm.trans HVV.out, rfl, rfl⟩⟩, Below.refl _ _⟩
  · obtain ⟨kl, hkl⟩ : ∃ k, l.length = k + 1 := ⟨l.length - 1, by omega⟩
    have hklI : (l.length : Int) - 1 = kl := by omega
    have hl0 : ¬ (l.length : Int) = 0 := by omega
    have hl0B : ((l.length : Int) == 0) = false := by rw [beq_eq_false_iff_ne, ne_eq]; omega
    have hkl0 : (0 : Int) < l.length := by omega
    have hkll : kl < l.length := by omega
    have hklb : (kl : Int) ≤ 40100 := by omega
    have HL1 := Lib.hid hkl
    have HLZ : Hid (lastZ l = decide ((l[kl]'hkll).x = ByteArray.empty)) := lastZ_at l kl hkl
    clear h hl hs hp hV h0 hkl
    go_enter Tryd.func13, Tryd.ntmps13
    go_wp2_with fail
    go_loopw [6, 7] (fun sz vi wr => ∃ i : Nat, i ≤ l.length ∧ sz = .int .i64 (begZ l i : Nat) ∧ vi = .int .i64 i ∧ Hid (okZ (begZ l i) (l.drop i) = okZ 0 l) ∧ Hid (kl < i → lastZ l = true) ∧ Hid (Below w.heap.size w wr)) (fun _ vi _ => l.length - (intOf vi).toNat)
    case atStart => exact ⟨0, Nat.zero_le _, rfl, rfl, rfl, fun e => by omega, Below.refl _ _⟩
    case round =>
      obtain ⟨i, hi, rfl, rfl, hok, hla, hb⟩ := hrel
      have hpi := HP.out i
      by_cases hlt : i < l.length
      · have hltI : (i : Int) < l.length := by omega
        obtain ⟨b, off, eA, hB, c0, c1, c2, c3⟩ := (HR.out.below hb.out).at_ i hlt
        cases eA
        have hst := begZ_succ l i hlt
        have hpi2 := HP.out (i + 1)
        have hos := okZ_step l i hlt
        rw [hok.out] at hos
        have hend : decide (i + 1 = l.length) = decide (i = kl) := by
          have := HL1.out
          rw [decide_eq_decide]; omega
        rw [hend] at hos
        have hHB := hb.out
        have hlz : i = kl → lastZ l = decide (l[i].x = ByteArray.empty) := fun e => by subst e; exact HLZ.out
        generalize hq : begZ l (i + 1) = q at *
        generalize hpp : begZ l i = p at *
        generalize l[i].b = tb at *
        generalize l[i].x = tx at *
        generalize l[i].a = ta at *
        generalize l[i].k = tk at *
        have hb1 : (tb.size : Int) ≤ 200100 := by omega
        have hb2 : (tx.size : Int) ≤ 200100 := by omega
        have hqI : (p : Int) + tb.size + tx.size = q := by omega
        have HQ := Lib.hid hq
        have HOS := Lib.hid hos
        have hfalse : okZ 0 l = false → V = false := fun e => by rw [HV.out]; unfold wholeZ; rw [e]; rfl
        have hlast : lastZ l = false → V = false := fun e => by rw [HV.out]; unfold wholeZ; rw [e, Bool.and_false]
        have HLA := Lib.hid hla.out
        by_cases g1 : ta = (p : Int) + tb.size
        · have g1B : (ta != (p : Int) + tb.size) = false := by simp [g1]
          by_cases g2 : tk = 0
          · by_cases g3 : i = kl
            · by_cases g4 : tx = ByteArray.empty
              · have hos2 : okZ q (l.drop (i + 1)) = okZ 0 l := by
                  rw [hos, decide_eq_true (by omega), decide_eq_true g2, decide_eq_true g3]; rfl
                have hlz2 := hlz g3
                rw [decide_eq_true g4] at hlz2
                have HLZ2 := Lib.hid hlz2
                have g' : tx = (⟨#[]⟩ : ByteArray) := g4
                have hqE : (p : Int) + tb.size = q := by
                  have h9 : tx.size = 0 := by rw [g4]; rfl
                  omega
                subst g1
                subst g2
                subst g3
                subst g'
                clear g4 hlz hlz2 hlast hla
                have HO2 := Lib.hid hos2
                clear hst hq hpp hos hos2 hok hfalse hHB hB hend
                go_wp2
                go_roundw
                case rel => exact ⟨i + 1, by omega, by first | (rw [HQ.out]; done) | (rw [HQ.out]; go_num), by go_num, by unfold Hid; rw [HQ.out]; exact HO2.out, fun _ => HLZ2.out, hb.out⟩
                case measure => simp [intOf]; omega
              · have hxl := hlz g3
                rw [decide_eq_false g4] at hxl
                have hE := emptyF tx (Nat.pos_of_ne_zero (fun e => g4 (ByteArray.size_eq_zero_iff.1 e)))
                subst g1
                subst g2
                subst g3
                clear g4 hlz hla
                have HVV := Lib.hid (hlast hxl)
                clear hst hq hpp hos hok hfalse hHB hB hend hlast hxl
                go_wp2
                go_ret2
                exact ⟨⟨0, 3, rfl, .inl ⟨HV.out.symm.trans HVV.out, rfl, rfl⟩⟩, hb.out⟩
            · have hos2 : okZ 0 l = false := by
                rw [hos, decide_eq_true g2, decide_eq_false g3]; simp
              have g3I : ¬ (i : Int) = kl := by omega
              have g3B : ((i : Int) == (kl : Int)) = false := by simpa using g3I
              subst g1
              subst g2
              clear hlz hlast hla g3
              have HVV := Lib.hid (hfalse hos2)
              clear hst hq hpp hos hos2 hok hfalse hHB hB hend
              go_wp2
              go_ret2
              exact ⟨⟨0, 3, rfl, .inl ⟨HV.out.symm.trans HVV.out, rfl, rfl⟩⟩, hb.out⟩
          · have g2B : (tk == 0) = false := by simpa using g2
            by_cases g3 : i = kl
            · have hos2 : okZ 0 l = false := by
                rw [hos, decide_eq_false g2, decide_eq_true g3]; simp
              subst g1
              subst g3
              clear hlz hlast hla
              have HVV := Lib.hid (hfalse hos2)
              clear hst hq hpp hos hos2 hok hfalse hHB hB hend
              go_wp2
              go_ret2
              exact ⟨⟨0, 3, rfl, .inl ⟨HV.out.symm.trans HVV.out, rfl, rfl⟩⟩, hb.out⟩
            · have hos2 : okZ q (l.drop (i + 1)) = okZ 0 l := by
                rw [hos, decide_eq_true (by omega), decide_eq_false g2, decide_eq_false g3]; rfl
              have g3I : ¬ (i : Int) = kl := by omega
              have g3B : ((i : Int) == (kl : Int)) = false := by simpa using g3I
              have HG3 := Lib.hid g3
              subst g1
              clear hlz hlast hla g3
              have HO2 := Lib.hid hos2
              clear hst hq hpp hos hos2 hok hfalse hHB hB hend
              go_wp2
              go_roundw
              case rel => exact ⟨i + 1, by omega, by first | (rw [HQ.out]; done) | (rw [HQ.out]; go_num), by go_num, by unfold Hid; rw [HQ.out]; exact HO2.out, fun h => HLA.out (by have := HG3.out; omega), hb.out⟩
              case measure => simp [intOf]; omega
        · have g1B : (ta == (p : Int) + tb.size) = false := by simpa using g1
          have g1C : (ta != (p : Int) + tb.size) = true := by simpa using g1
          have hos2 : okZ 0 l = false := by
            rw [hos, decide_eq_false (by omega)]; simp
          clear hlz hlast hla
          have HVV := Lib.hid (hfalse hos2)
          clear hst hq hpp hos hos2 hok hfalse hHB hB hend
          go_wp2
          go_ret2
          exact ⟨⟨0, 3, rfl, .inl ⟨HV.out.symm.trans HVV.out, rfl, rfl⟩⟩, hb.out⟩
      · obtain rfl : i = l.length := by omega
        have hni : ¬ (l.length : Int) < l.length := by omega
        rw [List.drop_length, okZ] at hok
        rw [begZ_all] at *
        have hv0 : wholeZ l = true := by
          have h1 := hla.out (by have := HL1.out; omega)
          unfold wholeZ
          rw [← hok.out, h1]; rfl
        have HVT := Lib.hid hv0
        have HB1 := Lib.hid hb.out
        clear hok hla hv0 hlt
        by_cases g0 : at_ < 0
        · go_wp2
          go_ret2
          exact ⟨⟨0, 1, rfl, .inr (.inl ⟨HVT.out, .inl g0, rfl, rfl⟩)⟩, HB1.out⟩
        · by_cases g1 : (sumZ l : Int) < at_
          · go_wp2
            go_ret2
            exact ⟨⟨0, 1, rfl, .inr (.inl ⟨HVT.out, .inr g1, rfl, rfl⟩)⟩, HB1.out⟩
          · have HG1 := Lib.hid (show ¬ (at_ < 0 ∨ (sumZ l : Int) < at_) by omega)
            go_wp2_with fail
            go_loopw [9, 10] (fun vn vi wr => ∃ i : Nat, i ≤ l.length ∧ vn = .int .i64 (begZ l i : Nat) ∧ vi = .int .i64 i ∧ Hid ((begZ l i : Int) ≤ at_) ∧ Hid (Below w.heap.size w wr)) (fun _ vi _ => l.length - (intOf vi).toNat)
            case atStart => exact ⟨0, Nat.zero_le _, rfl, rfl, by unfold Hid; rw [begZ_zero]; omega, HB1.out⟩
            case round =>
              obtain ⟨i, hi, rfl, rfl, hle, hb⟩ := hrel
              have hpi := HP.out i
              by_cases hlt : i < l.length
              · have hltI : (i : Int) < l.length := by omega
                obtain ⟨b, off, eA, hB, c0, c1, c2, c3⟩ := (HR.out.below hb.out).at_ i hlt
                cases eA
                have hst := begZ_succ l i hlt
                have hpi2 := HP.out (i + 1)
                have hmono : ∀ j, i < j → begZ l (i + 1) ≤ begZ l j := fun j hj => begZ_mono l j (i + 1) hj
                obtain ⟨p, hpp⟩ : ∃ p, p = begZ l i := ⟨_, rfl⟩
                obtain ⟨q, hqq⟩ : ∃ q, q = begZ l (i + 1) := ⟨_, rfl⟩
                rw [← hqq] at hst hpi2 hmono
                rw [← hpp] at hst hpi ⊢
                generalize l[i].b = tb at *
                generalize l[i].x = tx at *
                have hb1 : (tb.size : Int) ≤ 200100 := by omega
                have hb2 : (tx.size : Int) ≤ 200100 := by omega
                have hqI : (p : Int) + ((tb.size : Int) + tx.size) = q := by omega
                have hw1 : IntKind.i64.wrap ((tb.size : Int) + tx.size) = (tb.size : Int) + tx.size := IntWalk.i64_in _ (by omega)
                have HPP := Lib.hid hpp
                have HQQ := Lib.hid hqq
                have HMO := Lib.hid hmono
                have HLE := Lib.hid hle.out
                have HLT := Lib.hid hlt
                clear hst hpp hqq hmono hle c0 c3
                by_cases g2 : at_ < (q : Int)
                · clear hlt
                  go_wp2
                  go_quiet (fail)
                  go_wp2
                  go_ret2
                  exact ⟨⟨i, 0, rfl, .inr (.inr ⟨HVT.out, HG1.out, rfl, i, rfl, HLT.out, HLE.out, fun j h1 h2 => by have := HMO.out j h1; omega⟩)⟩, ⟨hb.out.os, hb.out.tape, hb.out.output, hb.out.size, hb.out.block⟩⟩
                · clear hlt
                  go_wp2
                  go_quiet (fail)
                  go_wp2
                  go_roundw
                  case rel => exact ⟨i + 1, by have := HLT.out; omega, by rw [← HQQ.out], by go_num, by unfold Hid; rw [← HQQ.out]; omega, ⟨hb.out.os, hb.out.tape, hb.out.output, hb.out.size, hb.out.block⟩⟩
                  case measure => simp [intOf]; have := HLT.out; omega
              · obtain rfl : i = l.length := by omega
                have hni : ¬ (l.length : Int) < l.length := by omega
                have HLE := Lib.hid hle.out
                clear hlt hle
                go_wp2
                go_ret2
                refine ⟨⟨kl, 0, by first | rfl | (congr 2; omega), .inr (.inr ⟨HVT.out, HG1.out, rfl, kl, rfl, hkll, ?_, fun j h1 h2 => by have := HL1.out; omega⟩)⟩, hb.out⟩
                have h1 := begZ_mono l l.length kl (by omega)
                have h2 := HLE.out
                omega

end Go.Proofs.YtihnafocjognaaaDoor
