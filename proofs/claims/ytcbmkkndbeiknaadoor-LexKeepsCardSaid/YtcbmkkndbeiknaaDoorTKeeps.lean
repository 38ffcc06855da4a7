/- LexKeeps: the walk of the law. -/
import Derived.Test.YtcbmkkndbeiknaaDoorLexJ
import Derived.Test.YtcbmkkndbeiknaaDoorLexQ
namespace Go.Proofs.YtcbmkkndbeiknaaDoor
open Go.RowKit Go.Maps Go.Shelf

theorem Laid.count {s : ByteArray} {l : List Tk} {P : Nat → Nat} (h : Laid s l P) : l.length ≤ s.size + 1 := by
  have : ∀ j, j < l.length → j ≤ P j := by
    intro j
    induction j with
    | zero => exact fun _ => Nat.zero_le _
    | succ j ih =>
      intro hj
      have h1 := ih (by omega)
      have h2 := h.lo j (by omega)
      have h3 := (h.mid j hj).2.2
      omega
  have hp := h.pos
  have h1 := this (l.length - 1) (by omega)
  have h2 := h.le (j := l.length - 1) (by omega)
  omega

set_option maxHeartbeats 4000000 in
set_option maxRecDepth 100000 in
theorem lexKeeps_any (n0 : Nat) (s : ByteArray) (w : World) (_hs : s.size ≤ 140737488355328) (hG : LexG n0 w) :
    Calls Tryd.prog 8 #[.string s] w fun e w' => e = .returned (.bool true) ∧ Below w.heap.size w w' := by
  have S := scan_any n0 s w hG
  have AW := fun W (h : LexG n0 W) => awakeL_any n0 W h
  obtain ⟨P, hP0, hL⟩ := laid_tokR s s.size true 0 (by omega) (Nat.zero_le _)
  rw [List.drop_zero] at hL
  unfold scanE scanL at S
  by_cases hok : scanOk s = true
  · rw [if_pos hok, if_pos hok] at S
    have hok2 : s.size ≤ 200000 ∧ (tokR true 0 s.data.toList).length ≤ 40000 := by simpa [scanOk] using hok
    obtain ⟨hs2, hl⟩ := hok2
    clear hok
    generalize tokR true 0 s.data.toList = l at *
    have T1 := fun A c W => text_laid s hs2 l hl P hP0 hL A c W
    have T2 := fun j hj ta hta A c W => at_laid s hs2 l hl P hP0 hL j hj ta hta A c W
    have HS := Lib.hid S
    have HAW := Lib.hid AW
    have HT1 := Lib.hid T1
    have HT2 := Lib.hid T2
    have HL := Lib.hid hL
    have HSZ := Lib.hid hs2
    have HLL := Lib.hid hl
    have HG := Lib.hid hG
    have hp : 0 < l.length := hL.pos
    have hlI : (l.length : Int) ≤ 40000 := by omega
    have hpI : (0 : Int) < l.length := by omega
    clear S AW T1 T2 hL hs2 hl hG
    go_enter Tryd.func8, Tryd.ntmps8
    go_wp2_with fail
    refine HS.out.mono ?_
    rintro e w1 ⟨v, rfl, hO, hb1⟩
    obtain ⟨g, cap, rfl, hgb, hglt⟩ := hO.form hp
    have hR : TRd w1 w1.heap.size (some ⟨g, 0, none⟩) l := Rd.of_own hO
    have HR := Lib.hid hR
    have HB1 := Lib.hid hb1
    clear hO hgb hglt hb1 hR HS
    go_wp2_with fail
    go_loopw [5] (fun i wr => ∃ k : Nat, k ≤ l.length ∧ i = .int .i64 k ∧ Hid (Below w1.heap.size w1 wr)) (fun i _ => l.length - (intOf i).toNat)
    case atStart => exact ⟨0, Nat.zero_le _, rfl, Below.refl _ _⟩
    case round =>
      obtain ⟨k, hk, rfl, hb⟩ := hrel
      by_cases hlt : k < l.length
      · obtain ⟨b, off, eA, hB, c0, c1, c2, c3⟩ := (HR.out.below hb.out).at_ k hlt
        cases eA
        simp only [Nat.zero_add] at c0 c2 c3
        have hA := HT2.out k hlt l[k].a rfl (some ⟨g, 0, none⟩) cap
        have h1 := HL.out.lo k hlt
        have h2 := HL.out.hi k hlt
        have h4 := HL.out.x k hlt
        have hs1 := HSZ.out
        have e2' : l[k].x.size = P (k + 1) - l[k].a := by rw [h4, ext_size _ _ _ (by omega)]
        have hkk : (k + 1 = l.length ∧ l[k].k = 0 ∧ l[k].a = s.size) ∨ (k + 1 < l.length ∧ 1 ≤ l[k].k ∧ l[k].a < P (k + 1)) := by
          by_cases g : k + 1 = l.length
          · have := HL.out.last k hlt g
            exact .inl ⟨g, this.1, this.2⟩
          · have := HL.out.mid k (by omega)
            exact .inr ⟨by omega, this.1, this.2.2⟩
        clear c1 h1
        generalize l[k].x = tx at *
        generalize l[k].a = ta at *
        generalize l[k].k = tk at *
        generalize P (k + 1) = q at *
        obtain ⟨xl, rfl⟩ := Nat.le.dest h2.1
        have e2 : tx.size = xl := by omega
        have h4' : s.extract ta (ta + xl) = tx := h4.symm
        have i3 : ((ta + xl : Nat) : Int) = ta + xl := by omega
        have g1 : ¬ (ta : Int) < 0 := by omega
        have g2 : ¬ (s.size : Int) < ta + xl := by omega
        have hltI : (k : Int) < l.length := by omega
        have d1 : decide ((ta : Int) < 0) = false := decide_eq_false g1
        have d2 : decide ((s.size : Int) < ta + xl) = false := decide_eq_false g2
        have hwr : IntKind.i64.wrap ((ta : Int) + xl) = ta + xl := IntWalk.i64_in _ (by omega)
        have HA := Lib.hid hA
        clear hA h4
        rcases hkk with ⟨g3, rfl, rfl⟩ | ⟨g3, g4, g5⟩
        · have hx0 : tx = ByteArray.empty := by
            have : tx.size = 0 := by omega
            exact ByteArray.size_eq_zero_iff.1 this
          subst hx0
          go_wp2
          go_quiet (fail)
          go_wp2_with fail
          have hbd : Below w1.heap.size w1 (wr.drewN nq) := ⟨hb.out.os, hb.out.tape, hb.out.output, hb.out.size, hb.out.block⟩
          have HBD := Lib.hid hbd
          clear hbd hb
          generalize wr.drewN nq = wd at *
          refine (HA.out wd ((HR.out.below HBD.out).more HBD.out.size)).mono ?_
          rintro e w3 ⟨rfl, hb3⟩
          have HB3 := Lib.hid (HBD.out.trans (hb3.mono HBD.out.size))
          clear hb3 HBD
          go_wp2
          go_roundw
          case rel => exact ⟨k + 1, by omega, by go_num, HB3.out⟩
          case measure => simp [intOf]; omega
        · have hx1 := emptyF tx (by omega)
          have hk1 : ¬ (tk : Int) = 0 := by omega
          have hk3 : ((tk : Int) == 0) = false := by simp; omega
          go_wp2
          go_quiet (fail)
          go_wp2_with fail
          have hbd : Below w1.heap.size w1 (wr.drewN nq) := ⟨hb.out.os, hb.out.tape, hb.out.output, hb.out.size, hb.out.block⟩
          have HBD := Lib.hid hbd
          clear hbd hb
          generalize wr.drewN nq = wd at *
          refine (HA.out wd ((HR.out.below HBD.out).more HBD.out.size)).mono ?_
          rintro e w3 ⟨rfl, hb3⟩
          have HB3 := Lib.hid (HBD.out.trans (hb3.mono HBD.out.size))
          clear hb3 HBD
          go_wp2
          go_roundw
          case rel => exact ⟨k + 1, by omega, by go_num, HB3.out⟩
          case measure => simp [intOf]; omega
      · have hk2 : k = l.length := by omega
        subst hk2
        have g2 : ¬ (l.length : Int) < l.length := by omega
        have hT := HT1.out (some ⟨g, 0, none⟩) cap _ ((HR.out.below hb.out).more hb.out.size)
        have HT := Lib.hid hT
        clear hT
        go_wp2_with fail
        refine HT.out.mono ?_
        rintro e w4 ⟨rfl, hb4⟩
        have hb5 := hb.out.trans (hb4.mono hb.out.size)
        have hb6 := HB1.out.trans (hb5.mono HB1.out.size)
        have HB6 := Lib.hid hb6
        have HWA := Lib.hid (HAW.out w4 (HG.out.below (hb6.mono (Nat.le_refl _))))
        clear hb4 hb5 hb6 hb HT
        go_wp2_with fail
        refine HWA.out.mono ?_
        rintro e w7 ⟨rfl, hb7⟩
        have HB7 := Lib.hid (HB6.out.trans (hb7.mono HB6.out.size))
        clear hb7
        go_wp2
        go_ret
        exact ⟨rfl, HB7.out⟩
  · rw [if_neg hok, if_neg hok] at S
    have hbig : 1000 < s.size := by
      have := hL.count
      have h2 : ¬ (s.size ≤ 200000 ∧ (tokR true 0 s.data.toList).length ≤ 40000) := by
        intro g
        exact hok (by simp [scanOk, g.1, g.2])
      omega
    have hbI : (1000 : Int) < s.size := by omega
    have HS := Lib.hid S
    have HAW := Lib.hid AW
    have HG := Lib.hid hG
    clear S AW hG hL hok
    go_enter Tryd.func8, Tryd.ntmps8
    go_wp2_with fail
    refine HS.out.mono ?_
    rintro e w1 ⟨v, rfl, hO, hb1⟩
    have HB1 := Lib.hid hb1
    have HWA := Lib.hid (HAW.out w1 (HG.out.below hb1))
    clear hO hb1
    go_wp2_with fail
    refine HWA.out.mono ?_
    rintro e w7 ⟨rfl, hb7⟩
    have HB7 := Lib.hid (HB1.out.trans (hb7.mono HB1.out.size))
    clear hb7
    go_wp2
    go_ret
    exact ⟨rfl, HB7.out⟩

end Go.Proofs.YtcbmkkndbeiknaaDoor
