/- TextEdits: the walk of the law. -/
import Derived.Test.YtgpmodbndngcoaaDoorRefMa
import Derived.Test.YtgpmodbndngcoaaDoorRefFi
import Derived.Test.YtgpmodbndngcoaaDoorSort
import Derived.Test.YtgpmodbndngcoaaDoorTBack
namespace Go.Proofs.YtgpmodbndngcoaaDoor
open Go.RowKit Go.Maps

theorem eqEdits_same (v v2 : Value) (l : List Ed) (w : World) (hl : l.length ≤ 1000000) (h1 : IsE w v l) (h2 : IsE w v2 l) :
    Calls Tryd.prog 25 #[v, v2] w fun e w' => e = .returned (.bool true) ∧ Below w.heap.size w w' := by
  obtain ⟨A, c, rfl, _, _, _, hE⟩ := h1
  obtain ⟨A2, c2, rfl, _, _, _, hE2⟩ := h2
  have := eqEdits_any A A2 c c2 l l w hl hl hE hE2
  rwa [show decide (l = l) = true by simp] at this

theorem apply_all (s : ByteArray) (v : Value) (l : List Ed) (w : World) (hs : s.size ≤ 140737488355328) (hl : l.length ≤ 1000000) (hT : SmallT l) (h : IsE w v l) :
    Calls Tryd.prog 19 #[.string s, v] w fun e w' => e = .returned (.tuple #[.string (if applF s.size l = 0 then behind s l else ⟨#[]⟩), .int .i64 (applF s.size l)]) ∧ Below w.heap.size w w' :=
  apply_any s v l w hs hl hT h

set_option maxHeartbeats 4000000 in
set_option maxRecDepth 100000 in
theorem textEdits_any (haw : ∀ W, Tab W → Calls Tryd.prog 17 #[] W fun e w' => e = .returned (.bool true) ∧ Below W.heap.size W w')
    (s : ByteArray) (A : Option Addr) (l : List Ed) (c : Nat) (w : World) (ht : Tab w)
    (hs : s.size ≤ 140737488355328) (hl : l.length ≤ 140737488355328) (hx : ∀ x ∈ l, x.s.size ≤ 140737488355328) (hE : IsE w (.slice A l.length c) l) :
    Calls Tryd.prog 4 #[.string s, .slice A l.length c] w fun e w' => e = .returned (.bool true) ∧ Below w.heap.size w w' := by
  have hEl : ESl w w.heap.size A l := by obtain ⟨A', c', e, _, _, _, h⟩ := hE; cases e; exact h
  have HV := heavy_any A c s l w hs hl hx hEl
  by_cases hq : heavyF s l = true
  · rw [hq] at HV
    have HV' := Lib.hid HV
    clear HV hq hE hEl ht haw hx
    go_enter Tryd.func4, Tryd.ntmps4
    go_wp2_with fail
    refine HV'.out.mono ?_
    rintro e w1 ⟨rfl, hb1⟩
    go_wp2
    go_ret
    exact ⟨rfl, hb1⟩
  · have hq' : heavyF s l = false := by simpa using hq
    obtain ⟨n1, n2, n3⟩ := heavyF_no hq'
    rw [hq'] at HV
    have HV' := Lib.hid HV
    by_cases h60 : 60 < l.length
    · have h60' : (60 : Int) < l.length := by omega
      clear HV hq hq' hE hEl ht haw hx n1 n2 n3
      go_enter Tryd.func4, Tryd.ntmps4
      go_wp2_with fail
      refine HV'.out.mono ?_
      rintro e w1 ⟨rfl, hb1⟩
      go_wp2
      go_ret
      exact ⟨rfl, hb1⟩
    · have hT : SmallT l := fun x hx' => by have := n2 x hx'; omega
      have C1 := fun W => apply_all s (.slice A l.length c) l W (by omega) (by omega) hT
      have C2 := fun W => refApply_any s (.slice A l.length c) l W (by omega) (by omega) hT
      have C3 := fun W => textFine_any s (.slice A l.length c) l W (by omega) (by omega)
      have C4 := fun W => refFine_any s (.slice A l.length c) l W (by omega) (by omega)
      have C5 := fun W => inverse_any s (.slice A l.length c) l W (by omega) (by omega) hT
      have C6 := fun W => refInverse_any s (.slice A l.length c) l W (by omega) (by omega) hT
      have hbl : (if applF s.size l = 0 then backF s l else []).length ≤ 1000000 := by
        by_cases g : applF s.size l = 0
        · rw [if_pos g]; have := (back_ok g).2.2.2.1; omega
        · rw [if_neg g]; simp
      have C7 := fun v v2 W => eqEdits_same v v2 (if applF s.size l = 0 then backF s l else []) W hbl
      generalize (if applF s.size l = 0 then backF s l else []) = bk at *
      generalize (if applF s.size l = 0 then behind s l else (⟨#[]⟩ : ByteArray)) = t at *
      generalize applF s.size l = E at *
      generalize fineF s.size l = F at *
      have HC1 := Lib.hid C1
      have HC2 := Lib.hid C2
      have HC3 := Lib.hid C3
      have HC4 := Lib.hid C4
      have HC5 := Lib.hid C5
      have HC6 := Lib.hid C6
      have HC7 := Lib.hid C7
      have HE := Lib.hid hE
      have HT := Lib.hid ht
      have HAW := Lib.hid haw
      have h60' : ¬ (60 : Int) < l.length := by omega
      clear HV C1 C2 C3 C4 C5 C6 C7 hT hq hq' hE hEl ht haw hx n1 n2 n3 hbl h60
      go_enter Tryd.func4, Tryd.ntmps4
      go_wp2_with fail
      refine HV'.out.mono ?_
      rintro e w1 ⟨rfl, hb1⟩
      have HB1 := Lib.hid hb1
      clear hb1 HV'
      go_wp2_with fail
      refine (HC1.out _ (IsE.below HE.out HB1.out)).mono ?_
      rintro e w2 ⟨rfl, hb2⟩
      have HB2 := Lib.hid (chainB HB1.out hb2)
      clear hb2 HB1 HC1
      go_wp2_with fail
      refine (HC2.out _ (IsE.below HE.out HB2.out)).mono ?_
      rintro e w3 ⟨rfl, hb3⟩
      have HB3 := Lib.hid (chainB HB2.out hb3)
      clear hb3 HB2 HC2
      go_wp2_with fail
      refine (HC3.out _ (IsE.below HE.out HB3.out)).mono ?_
      rintro e w4 ⟨rfl, hb4⟩
      have HB4 := Lib.hid (chainB HB3.out hb4)
      clear hb4 HB3 HC3
      go_wp2_with fail
      refine (HC4.out _ (IsE.below HE.out HB4.out)).mono ?_
      rintro e w5 ⟨rfl, hb5⟩
      have HB5 := Lib.hid (chainB HB4.out hb5)
      clear hb5 HB4 HC4
      go_wp2_with fail
      refine (HC5.out _ (IsE.below HE.out HB5.out)).mono ?_
      rintro e w6 ⟨v6, rfl, hI6, hb6⟩
      have HB6 := Lib.hid (chainB HB5.out hb6)
      have HI6 := Lib.hid hI6
      clear hb6 HB5 HC5 hI6
      go_wp2_with fail
      refine (HC6.out _ (IsE.below HE.out HB6.out)).mono ?_
      rintro e w7 ⟨v7, rfl, hI7, hb7⟩
      have HB7 := Lib.hid (chainB HB6.out hb7)
      have HI67 := Lib.hid (IsE.below HI6.out hb7)
      have HI7 := Lib.hid hI7
      clear hb7 HB6 HC6 hI7 HI6
      go_wp2_with fail
      refine (HC7.out _ _ _ HI67.out HI7.out).mono ?_
      rintro e w8 ⟨rfl, hb8⟩
      have HB8 := Lib.hid (chainB HB7.out hb8)
      have A8 := Lib.hid (HAW.out w8 (HT.out.below HB8.out))
      clear hb8 HB7 HC7 HI67 HI7
      go_wp2_with fail
      refine A8.out.mono ?_
      rintro e w9 ⟨rfl, hb9⟩
      have HB9 := Lib.hid (chainB HB8.out hb9)
      clear hb9 HB8 A8
      go_wp2
      go_ret
      exact ⟨rfl, HB9.out⟩

end Go.Proofs.YtgpmodbndngcoaaDoor
