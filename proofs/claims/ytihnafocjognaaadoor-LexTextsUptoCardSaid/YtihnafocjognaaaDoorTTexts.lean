/- LexTexts: the walk of the law. -/
import Derived.Test.YtihnafocjognaaaDoorTzE
namespace Go.Proofs.YtihnafocjognaaaDoor
open Go.RowKit Go.Maps Go.Shelf

set_option maxHeartbeats 8000000 in
set_option maxRecDepth 100000 in
theorem lexTexts_any (n0 : Nat) (A : Option Addr) (c : Nat) (l : List Tz) (at_ : Int) (w : World) (hl : l.length ≤ 1048576) (hs : sumZ l ≤ 1048576) (h : ZRd w w.heap.size A l) (hG : LexG n0 w) :
    Calls Tryd.prog 4 #[.slice A l.length c, .int .i64 at_] w fun e w' => e = .returned (.bool true) ∧ Below w.heap.size w w' := by
  have AW := fun W (h : LexG n0 W) => Lib.hid (awakeL_any n0 W h)
  have LO := long_any A c l w hl hs h
  have HAW := Lib.hid AW
  have HG := Lib.hid hG
  have HR := Lib.hid h
  by_cases hb : (decide (40100 < l.length) || decide (200100 < sumZ l)) = true
  · rw [hb] at LO
    have HLO := Lib.hid LO
    clear AW hG h LO hl hs hb
    go_enter Tryd.func4, Tryd.ntmps4
    go_wp2_with fail
    refine HLO.out.mono ?_
    rintro e w1 ⟨rfl, hb1⟩
    have HB1 := Lib.hid hb1
    clear hb1
    go_wp2_with fail
    refine (HAW.out _ (HG.out.below HB1.out)).out.mono ?_
    rintro e w2 ⟨rfl, hb2⟩
    have HB2 := Lib.hid (HB1.out.trans (hb2.mono HB1.out.size))
    clear hb2
    go_wp2
    go_ret
    exact ⟨rfl, HB2.out⟩
  · have hb' : (decide (40100 < l.length) || decide (200100 < sumZ l)) = false := by simpa using hb
    rw [hb'] at LO
    have hl2 : l.length ≤ 40100 := by
      by_cases g : l.length ≤ 40100
      · exact g
      · rw [decide_eq_true (by omega : 40100 < l.length)] at hb'; cases hb'
    have hs2 : sumZ l ≤ 200100 := by
      by_cases g : sumZ l ≤ 200100
      · exact g
      · rw [decide_eq_true (by omega : 200100 < sumZ l), Bool.or_true] at hb'; cases hb'
    have AT := fun W (g : ZRd W W.heap.size A l) => Lib.hid (atZ_any A c l at_ W hl2 hs2 g)
    have RA := fun W (g : ZRd W W.heap.size A l) => Lib.hid (refAtZ_any A c l at_ W hl2 hs2 g)
    have TX := fun W (g : ZRd W W.heap.size A l) => Lib.hid (textZ_any A c l W hl2 hs2 g)
    have RT := fun W (g : ZRd W W.heap.size A l) => Lib.hid (refTextZ_any A c l W hl2 hs2 g)
    have ST := fun W (g : ZRd W W.heap.size A l) => Lib.hid (stripZ_any A c l W (by omega) g)
    have RS := fun W (g : ZRd W W.heap.size A l) => Lib.hid (refStripZ_any A c l W (by omega) g)
    have hlen1 : (stripZ l).length ≤ 1000000 := by have h1 := keepZ_len l; unfold stripZ; rw [List.length_map]; omega
    have hup : ∀ W, Below w.heap.size w W → ZRd W W.heap.size A l := fun W g => (h.below g).up g.size
    have HLEN := Lib.hid hlen1
    have HAT := Lib.hid AT
    have HRA := Lib.hid RA
    have HTX := Lib.hid TX
    have HRT := Lib.hid RT
    have HST := Lib.hid ST
    have HRS := Lib.hid RS
    have HUP := Lib.hid hup
    have HLO := Lib.hid LO
    clear AW hG h LO hl hs hb hb' hl2 hs2 AT RA TX RT ST RS hlen1 hup
    go_enter Tryd.func4, Tryd.ntmps4
    go_wp2_with fail
    refine HLO.out.mono ?_
    rintro e w1 ⟨rfl, hb1⟩
    have HB1 := Lib.hid hb1
    clear hb1
    go_wp2_with fail
    refine (HAT.out _ (HUP.out _ HB1.out)).out.mono ?_
    rintro e w2 ⟨⟨r, E, rfl, hat⟩, hb2⟩
    have HB2 := Lib.hid (HB1.out.trans (hb2.mono HB1.out.size))
    have HATP := Lib.hid hat
    clear hb2 hat
    go_wp2_with fail
    refine (HRA.out _ (HUP.out _ HB2.out)).out.mono ?_
    rintro e w3 ⟨⟨r2, E2, rfl, hat2⟩, hb3⟩
    obtain ⟨e1, e2⟩ := AtP.uniq HATP.out hat2
    subst e1
    subst e2
    have HB3 := Lib.hid (HB2.out.trans (hb3.mono HB2.out.size))
    clear hb3 hat2
    go_wp2_with fail
    refine (HTX.out _ (HUP.out _ HB3.out)).out.mono ?_
    rintro e w4 ⟨rfl, hb4⟩
    have HB4 := Lib.hid (HB3.out.trans (hb4.mono HB3.out.size))
    clear hb4
    go_wp2_with fail
    refine (HRT.out _ (HUP.out _ HB4.out)).out.mono ?_
    rintro e w5 ⟨rfl, hb5⟩
    have HB5 := Lib.hid (HB4.out.trans (hb5.mono HB4.out.size))
    clear hb5
    go_wp2_with fail
    refine (HST.out _ (HUP.out _ HB5.out)).out.mono ?_
    rintro e w6 ⟨v, rfl, hO6, hb6⟩
    obtain ⟨A6, c6, rfl⟩ := own_len hO6
    have HR6 := Lib.hid (show Rd w6 w6.heap.size A6 (stripZV l) from Rd.of_own hO6)
    have HB6 := Lib.hid (HB5.out.trans (hb6.mono HB5.out.size))
    clear hb6 hO6
    go_wp2_with fail
    refine (HRS.out _ (HUP.out _ HB6.out)).out.mono ?_
    rintro e w7 ⟨v, rfl, hO7, hb7⟩
    obtain ⟨A7, c7, rfl⟩ := own_len hO7
    have hR7 : Rd w7 w7.heap.size A7 (stripZV l) := Rd.of_own hO7
    have hR67 := (Rd.below HR6.out hb7).more hb7.size
    have HB7 := Lib.hid (HB6.out.trans (hb7.mono HB6.out.size))
    have hq0 := eqStr_any A6 A7 c6 c7 (stripZ l) (stripZ l) w7 HLEN.out HLEN.out hR67 hR7
    rw [show decide (stripZ l = stripZ l) = true by simp] at hq0
    have HQ := Lib.hid hq0
    clear hb7 hO7 hR7 hR67 hq0
    go_wp2_with fail
    refine HQ.out.mono ?_
    rintro e w8 ⟨rfl, hb8⟩
    have HB8 := Lib.hid (HB7.out.trans (hb8.mono HB7.out.size))
    clear hb8
    go_wp2_with fail
    refine (HAW.out _ (HG.out.below HB8.out)).out.mono ?_
    rintro e w9 ⟨rfl, hb9⟩
    have HB9 := Lib.hid (HB8.out.trans (hb9.mono HB8.out.size))
    clear hb9
    go_wp2
    go_ret
    exact ⟨rfl, HB9.out⟩

end Go.Proofs.YtihnafocjognaaaDoor
