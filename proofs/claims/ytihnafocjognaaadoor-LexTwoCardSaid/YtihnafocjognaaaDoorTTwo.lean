/- LexTwo: the walk of the law. -/
import Derived.Test.YtihnafocjognaaaDoorLexOf
namespace Go.Proofs.YtihnafocjognaaaDoor
open Go.RowKit Go.Maps Go.Shelf

theorem scan_big (s : ByteArray) (h : s.size ≤ 200000) (hn : scanOk s = false) : 40000 ≤ s.size := by
  have h2 := tokR_len true 0 s.data.toList
  have h3 : s.data.toList.length = s.size := by simp
  unfold scanOk at hn
  rw [decide_eq_true h, Bool.true_and, decide_eq_false_iff_not] at hn
  omega
theorem scan_eq (s : ByteArray) (h : scanOk s = true) : scanL s = tokR true 0 s.data.toList ∧ scanE s = 0 := by
  unfold scanL scanE
  rw [if_pos h, if_pos h]
  exact ⟨rfl, rfl⟩
theorem scan_ne (s : ByteArray) (h : scanOk s = false) : scanE s = 2 := by
  unfold scanE
  rw [h]
  rfl
/-- a text's last byte -/
theorem last_at (s : ByteArray) (k : Nat) (h : s.size = k + 1) : s.data.toList.getLast? = some (s[k]'(by omega)) := by
  have e : s.data.toList.length - 1 = k := by simp; omega
  rw [List.getLast?_eq_getElem?, e]
  have : k < s.data.toList.length := by simp; omega
  rw [List.getElem?_eq_getElem this]
  rfl

theorem tok_alen : ∀ (n : Nat) (f : Bool) (a : Nat) (l : List UInt8), l.length ≤ n → ∀ t ∈ tokR f a l, t.a ≤ a + l.length
  | n, f, a, l, hn, t, ht => by
    have hs := skipF_le f l
    rw [tokR_step] at ht
    by_cases g : l.length ≤ (skipF f l).1
    · rw [if_pos g] at ht
      obtain rfl : t = endTk f a l := by simpa using ht
      show a + (skipF f l).1 ≤ _
      omega
    · rw [if_neg g, List.mem_cons] at ht
      rcases ht with rfl | ht
      · show a + (skipF f l).1 ≤ _
        omega
      · have hl := left_less f l g
        have hz := tokF_le (skipF f l).2 (l.drop (skipF f l).1) (List.ne_nil_of_length_pos (by rw [List.length_drop]; omega))
        cases n with
        | zero => omega
        | succ n =>
          have := tok_alen n _ _ _ (by omega) t ht
          rw [List.length_drop, List.length_drop] at this
          rw [List.length_drop] at hz
          omega

set_option maxHeartbeats 16000000 in
set_option maxRecDepth 100000 in
theorem lexTwo_any (n0 : Nat) (a b : ByteArray) (w : World) (ha : a.size ≤ 140737488355328) (hb : b.size ≤ 140737488355328) (hG : LexG n0 w) :
    Calls Tryd.prog 6 #[.string a, .string b] w fun e w' => e = .returned (.bool true) ∧ Below w.heap.size w w' := by
  have AW := fun W (h : LexG n0 W) => Lib.hid (awakeL_any n0 W h)
  have HAW := Lib.hid AW
  have HG := Lib.hid hG
  have haI : (a.size : Int) ≤ 140737488355328 := by omega
  have hbI : (b.size : Int) ≤ 140737488355328 := by omega
  by_cases hsum : a.size + b.size ≤ 199999
  · have hsI : ¬ (199999 : Int) < (a.size : Int) + b.size := by omega
    have OP := Lib.hid (open_any a w (by omega))
    have SA := fun W h => Lib.hid (scan_any n0 a W h)
    have SB := fun W h => Lib.hid (scan_any n0 b W h)
    have SZ := fun W h => Lib.hid (scan_any n0 (a ++ ⟨#[10]⟩ ++ b) W h)
    have hzs : (a ++ ⟨#[10]⟩ ++ b : ByteArray).size = a.size + 1 + b.size := by rw [ByteArray.size_append, ByteArray.size_append]; rfl
    have hzd : (a ++ ⟨#[10]⟩ ++ b : ByteArray).data.toList = a.data.toList ++ 10 :: b.data.toList := by rw [ByteArray.data_append, ByteArray.data_append]; simp
    have HSUM := Lib.hid hsum
    clear AW hG ha hb
    by_cases h0 : a.size = 0
    · have hE : a.toList.isEmpty = true := by rw [ByteArray.size_eq_zero_iff.1 h0, ByteArray.toList_eq]; rfl
      have hT : Tail a.data.toList := by rw [ByteArray.size_eq_zero_iff.1 h0]; exact ⟨by simp, by simp⟩
      clear h0
      go_enter Tryd.func6, Tryd.ntmps6
      go_wp2_with fail
      refine OP.out.mono ?_
      rintro e w1 ⟨o, rfl, ho, hb1⟩
      have HB1 := Lib.hid hb1
      cases o
      · have hoE := ho rfl
        clear ho hb1
        have hsz2 : (a ++ ⟨#[10]⟩ ++ b : ByteArray).size ≤ 200000 := by omega
        by_cases oa : scanOk a = true
        · obtain ⟨xa, xe⟩ := scan_eq a oa
          simp only [xa, xe] at SA
          by_cases ob : scanOk b = true
          · obtain ⟨ya, ye⟩ := scan_eq b ob
            simp only [ya, ye] at SB
            by_cases oz : scanOk (a ++ ⟨#[10]⟩ ++ b) = true
            · obtain ⟨za, ze⟩ := scan_eq (a ++ ⟨#[10]⟩ ++ b) oz
              simp only [za, ze] at SZ
              rw [hzd] at SZ
              have hlx : (tokR true 0 a.data.toList).length ≤ 40000 := by rw [← xa]; exact scanL_len a
              have hly : (tokR true 0 b.data.toList).length ≤ 40000 := by rw [← ya]; exact scanL_len b
              have hYA : ∀ (j : Nat) (h : j < (tokR true 0 b.data.toList).length), ((tokR true 0 b.data.toList)[j].a : Int) ≤ 200000 := fun j h => by
                have := tok_alen b.data.toList.length true 0 b.data.toList (Nat.le_refl _) _ (List.getElem_mem h)
                simp at this
                omega
              have hYB : ∀ (j : Nat) (h : j < (tokR true 0 b.data.toList).length), ((tokR true 0 b.data.toList)[j].b.size : Int) ≤ 200000 := fun j h => by
                have := tok_blen b.data.toList.length true 0 b.data.toList (Nat.le_refl _) _ (List.getElem_mem h)
                simp at this
                omega
              have hXB : ∀ (j : Nat) (h : j < (tokR true 0 a.data.toList).length), ((tokR true 0 a.data.toList)[j].b.size : Int) ≤ 200000 := fun j h => by
                have := tok_blen a.data.toList.length true 0 a.data.toList (Nat.le_refl _) _ (List.getElem_mem h)
                simp at this
                omega
              have hsl : a.data.toList.length = a.size := by simp
              obtain ⟨kx, hTW⟩ := two_facts a.data.toList b.data.toList hT (by rw [hsl]; exact hoE) _ _ _ rfl rfl rfl
              rw [hsl] at hTW
              generalize tokR true 0 a.data.toList = x at *
              generalize tokR true 0 b.data.toList = y at *
              generalize tokR true 0 (a.data.toList ++ 10 :: b.data.toList) = z at *
              have h1 := hTW.lx
              have h2 := hTW.ly
              have h3 := hTW.lz
              have lxI : (x.length : Int) = kx + 1 := by omega
              have lzI : (z.length : Int) = kx + y.length := by omega
              have lyI : (0 : Int) < y.length := by omega
              have kxI : (kx : Int) ≤ 40000 := by omega
              have lyb : (y.length : Int) ≤ 40000 := by omega
              have lx0 : ((kx : Int) + 1 == 0) = false := by simp; omega
              have ly0 : ((y.length : Int) == 0) = false := by rw [beq_eq_false_iff_ne, ne_eq]; omega
              have lsm : (kx : Int) + 1 + y.length - 1 = kx + y.length := by omega
              have hsaI : (a.size : Int) ≤ 200000 := by have h9 := HSUM.out; omega
              have HSA := Lib.hid SA
              have HSB := Lib.hid SB
              have HSZ := Lib.hid SZ
              have HTW := Lib.hid hTW
              have HYA := Lib.hid hYA
              have HYB := Lib.hid hYB
              have HXB := Lib.hid hXB
              clear hoE hsz2 oa ob oz xa xe ya ye za ze hlx hly hYA hYB hXB hsl hTW h1 h2 h3 SA SB SZ hzs hzd hT hsum OP
              go_wp2_with fail
              refine (HSA.out w1 (HG.out.below HB1.out)).out.mono ?_
              rintro e w2 ⟨v, rfl, hO, hb2⟩
              obtain ⟨Aa, ca, rfl⟩ := own_len hO
              have HRa := Lib.hid (show TRd w2 w2.heap.size Aa x from Rd.of_own hO)
              have HB2 := Lib.hid (HB1.out.trans (hb2.mono HB1.out.size))
              clear hO hb2
              go_wp2_with fail
              refine (HSB.out w2 (HG.out.below HB2.out)).out.mono ?_
              rintro e w3 ⟨v, rfl, hO, hb3⟩
              obtain ⟨Ab, cb, rfl⟩ := own_len hO
              have HRb := Lib.hid (show TRd w3 w3.heap.size Ab y from Rd.of_own hO)
              have HRa3 := Lib.hid ((HRa.out.below hb3).more hb3.size)
              have HB3 := Lib.hid (HB2.out.trans (hb3.mono HB2.out.size))
              clear hO hb3 HRa
              go_wp2_with fail
              refine (HSZ.out w3 (HG.out.below HB3.out)).out.mono ?_
              rintro e w4 ⟨v, rfl, hO, hb4⟩
              obtain ⟨Az, cz, rfl⟩ := own_len hO
              have HRz := Lib.hid (show TRd w4 w4.heap.size Az z from Rd.of_own hO)
              have HRb4 := Lib.hid ((HRb.out.below hb4).more hb4.size)
              have HRa4 := Lib.hid ((HRa3.out.below hb4).more hb4.size)
              have HB4 := Lib.hid (HB3.out.trans (hb4.mono HB3.out.size))
              clear hO hb4 HRb HRa3
              go_wp2_with fail
              go_loopw [11] (fun vi wr => ∃ i : Nat, i ≤ z.length ∧ vi = .int .i64 i ∧ Hid (Below w4.heap.size w4 wr)) (fun vi _ => z.length - (intOf vi).toNat)
              case atStart => exact ⟨0, Nat.zero_le _, rfl, Below.refl _ _⟩
              case round =>
                obtain ⟨i, hi, rfl, hbr⟩ := hrel
                by_cases hlt : i < z.length
                · have hltZ : (i : Int) < kx + y.length := by rw [← lzI]; omega
                  by_cases hlow : i < kx
                  · have hlx : i < x.length := by omega
                    obtain ⟨b1, o1, e1, hB1', c0, c1, c2, c3⟩ := TRd.at_ (TRd.below HRz.out hbr.out) i hlt
                    obtain ⟨b2, o2, e2, hB2', d0, d1, d2, d3⟩ := TRd.at_ (TRd.below HRa4.out hbr.out) i hlx
                    cases e1
                    cases e2
                    rw [HTW.out.low i hlow hlt hlx] at c0 c1 c2 c3
                    generalize x[i] = t at *
                    have hnq := fun W => run_neqTk t t W
                    rw [show (!decide (t = t)) = false by simp] at hnq
                    have hneg : (i : Int) - kx < 0 := by omega
                    have hltX : (i : Int) < kx + 1 := by omega
                    have hwr : IntKind.i64.wrap ((i : Int) - kx) = (i : Int) - kx := IntWalk.i64_in _ (by omega)
                    clear hlow hlx
                    go_wp2
                    go_region
                    go_wp2
                    go_roundw
                    case rel => exact ⟨i + 1, by omega, by go_num, ⟨hbr.out.os, hbr.out.tape, hbr.out.output, hbr.out.size, hbr.out.block⟩⟩
                    case measure => simp [intOf]; omega
                  · obtain ⟨j, rfl⟩ := Nat.le.dest (Nat.le_of_not_lt hlow)
                    have hjl : j < y.length := by have := HTW.out.lz; omega
                    have hkx : kx < x.length := by have := HTW.out.lx; omega
                    have hijI : ((kx + j : Nat) : Int) = kx + j := by omega
                    have hjlI : (j : Int) < y.length := by omega
                    have hj0 : ¬ (j : Int) < 0 := by omega
                    have hkxI : (kx : Int) < kx + 1 := by omega
                    have hjb : (j : Int) ≤ 40000 := by omega
                    obtain ⟨b1, o1, e1, hB1', c0, c1, c2, c3⟩ := TRd.at_ (TRd.below HRz.out hbr.out) (kx + j) hlt
                    obtain ⟨b2, o2, e2, hB2', d0, d1, d2, d3⟩ := TRd.at_ (TRd.below HRb4.out hbr.out) j hjl
                    obtain ⟨b3, o3, e3, hB3', f0, f1, f2, f3⟩ := TRd.at_ (TRd.below HRa4.out hbr.out) kx hkx
                    cases e1
                    cases e2
                    cases e3
                    obtain ⟨k1, k2, k3⟩ := HTW.out.k j hjl hlt
                    rw [k1] at c0
                    rw [k2] at c2
                    rw [k3] at c3
                    have hya : ((y[j].a + a.size + 1 : Nat) : Int) = y[j].a + a.size + 1 := by omega
                    have hyb : (y[j].a : Int) ≤ 200000 := HYA.out j hjl
                    have hbz : (y[j].b.size : Int) ≤ 200000 := HYB.out j hjl
                    have hxz : (x[kx].b.size : Int) ≤ 200000 := HXB.out kx hkx
                    have heq : ((y[j].a : Int) + a.size + 1 == (y[j].a : Int) + a.size + 1) = true := by simp
                    by_cases hj : j = 0
                    · subst hj
                      have hb0 := HTW.out.b0 hjl hlt hkx
                      rw [hb0] at c1
                      clear hb0 k1 k2 k3 hlow hj0 f0 f2 f3 hijI
                      simp only [Nat.zero_mul, Nat.add_zero] at *
                      generalize y[0].k = yk at *
                      generalize y[0].b = yb at *
                      generalize y[0].x = yx at *
                      generalize y[0].a = ya at *
                      generalize x[kx].b = xb at *
                      go_wp2
                      go_quiet (fail)
                      go_wp2
                      go_roundw
                      case rel => exact ⟨_, hlt, by go_num, ⟨hbr.out.os, hbr.out.tape, hbr.out.output, hbr.out.size, hbr.out.block⟩⟩
                      case measure => simp [intOf]; omega
                    · have hjn : ¬ (j : Int) = 0 := by omega
                      have hjB : ((j : Int) == 0) = false := by simpa using hjn
                      have hb1 := HTW.out.b j hjl hlt (by omega)
                      rw [hb1] at c1
                      clear hb1 k1 k2 k3 hlow f0 f1 f2 f3 hj
                      generalize y[j].k = yk at *
                      generalize y[j].b = yb at *
                      generalize y[j].x = yx at *
                      generalize y[j].a = ya at *
                      go_wp2
                      go_quiet (fail)
                      go_wp2
                      go_roundw
                      case rel => exact ⟨_, hlt, by go_num, ⟨hbr.out.os, hbr.out.tape, hbr.out.output, hbr.out.size, hbr.out.block⟩⟩
                      case measure => simp [intOf]; omega
                · obtain rfl : i = z.length := by omega
                  have hni : ¬ (z.length : Int) < z.length := by omega
                  have HBX := Lib.hid (HB4.out.trans (hbr.out.mono HB4.out.size))
                  clear hlt
                  go_wp2_with fail
                  refine (HAW.out _ (HG.out.below HBX.out)).out.mono ?_
                  rintro e w7 ⟨rfl, hb7⟩
                  have HB7 := Lib.hid (HBX.out.trans (hb7.mono HBX.out.size))
                  clear hb7
                  go_wp2
                  go_ret
                  exact ⟨rfl, HB7.out⟩
            · have ze := scan_ne (a ++ ⟨#[10]⟩ ++ b) (by simpa using oz)
              have zb := scan_big (a ++ ⟨#[10]⟩ ++ b) hsz2 (by simpa using oz)
              simp only [ze] at SZ
              have hbigI : (10000 : Int) < (a.size : Int) + b.size := by omega
              generalize tokR true 0 a.data.toList = x at *
              generalize tokR true 0 b.data.toList = y at *
              have HSA := Lib.hid SA
              have HSB := Lib.hid SB
              have HSZ := Lib.hid SZ
              clear hoE hsz2 oa ob oz xa xe ya ye ze zb SA SB SZ hzs hzd hT hsum OP
              go_wp2_with fail
              refine (HSA.out w1 (HG.out.below HB1.out)).out.mono ?_
              rintro e w2 ⟨v, rfl, hO, hb2⟩
              obtain ⟨Aa, ca, rfl⟩ := own_len hO
              have HRa := Lib.hid (show TRd w2 w2.heap.size Aa x from Rd.of_own hO)
              have HB2 := Lib.hid (HB1.out.trans (hb2.mono HB1.out.size))
              clear hO hb2
              go_wp2_with fail
              refine (HSB.out w2 (HG.out.below HB2.out)).out.mono ?_
              rintro e w3 ⟨v, rfl, hO, hb3⟩
              obtain ⟨Ab, cb, rfl⟩ := own_len hO
              have HRb := Lib.hid (show TRd w3 w3.heap.size Ab y from Rd.of_own hO)
              have HRa3 := Lib.hid ((HRa.out.below hb3).more hb3.size)
              have HB3 := Lib.hid (HB2.out.trans (hb3.mono HB2.out.size))
              clear hO hb3 HRa
              go_wp2_with fail
              refine (HSZ.out w3 (HG.out.below HB3.out)).out.mono ?_
              rintro e w4 ⟨v, rfl, hO, hb4⟩
              obtain ⟨Az, cz, rfl⟩ := own_len hO
              have HRz := Lib.hid (show TRd w4 w4.heap.size Az (scanL (a ++ ⟨#[10]⟩ ++ b)) from Rd.of_own hO)
              have HRb4 := Lib.hid ((HRb.out.below hb4).more hb4.size)
              have HRa4 := Lib.hid ((HRa3.out.below hb4).more hb4.size)
              have HB4 := Lib.hid (HB3.out.trans (hb4.mono HB3.out.size))
              clear hO hb4 HRb HRa3
              have HBX := HB4
              go_wp2_with fail
              refine (HAW.out _ (HG.out.below HBX.out)).out.mono ?_
              rintro e w7 ⟨rfl, hb7⟩
              have HB7 := Lib.hid (HBX.out.trans (hb7.mono HBX.out.size))
              clear hb7
              go_wp2
              go_ret
              exact ⟨rfl, HB7.out⟩
          · have ye := scan_ne b (by simpa using ob)
            have yb := scan_big b (by omega) (by simpa using ob)
            simp only [ye] at SB
            have hbigI : (10000 : Int) < (a.size : Int) + b.size := by omega
            generalize tokR true 0 a.data.toList = x at *
            have HSA := Lib.hid SA
            have HSB := Lib.hid SB
            have HSZ := Lib.hid SZ
            clear hoE hsz2 oa ob xa xe ye yb SA SB SZ hzs hzd hT hsum OP
            go_wp2_with fail
            refine (HSA.out w1 (HG.out.below HB1.out)).out.mono ?_
            rintro e w2 ⟨v, rfl, hO, hb2⟩
            obtain ⟨Aa, ca, rfl⟩ := own_len hO
            have HRa := Lib.hid (show TRd w2 w2.heap.size Aa x from Rd.of_own hO)
            have HB2 := Lib.hid (HB1.out.trans (hb2.mono HB1.out.size))
            clear hO hb2
            go_wp2_with fail
            refine (HSB.out w2 (HG.out.below HB2.out)).out.mono ?_
            rintro e w3 ⟨v, rfl, hO, hb3⟩
            obtain ⟨Ab, cb, rfl⟩ := own_len hO
            have HRb := Lib.hid (show TRd w3 w3.heap.size Ab (scanL b) from Rd.of_own hO)
            have HRa3 := Lib.hid ((HRa.out.below hb3).more hb3.size)
            have HB3 := Lib.hid (HB2.out.trans (hb3.mono HB2.out.size))
            clear hO hb3 HRa
            go_wp2_with fail
            refine (HSZ.out w3 (HG.out.below HB3.out)).out.mono ?_
            rintro e w4 ⟨v, rfl, hO, hb4⟩
            obtain ⟨Az, cz, rfl⟩ := own_len hO
            have HRz := Lib.hid (show TRd w4 w4.heap.size Az (scanL (a ++ ⟨#[10]⟩ ++ b)) from Rd.of_own hO)
            have HRb4 := Lib.hid ((HRb.out.below hb4).more hb4.size)
            have HRa4 := Lib.hid ((HRa3.out.below hb4).more hb4.size)
            have HB4 := Lib.hid (HB3.out.trans (hb4.mono HB3.out.size))
            clear hO hb4 HRb HRa3
            have HBX := HB4
            go_wp2_with fail
            refine (HAW.out _ (HG.out.below HBX.out)).out.mono ?_
            rintro e w7 ⟨rfl, hb7⟩
            have HB7 := Lib.hid (HBX.out.trans (hb7.mono HBX.out.size))
            clear hb7
            go_wp2
            go_ret
            exact ⟨rfl, HB7.out⟩
        · have xe := scan_ne a (by simpa using oa)
          have xb := scan_big a (by omega) (by simpa using oa)
          simp only [xe] at SA
          have hbigI : (10000 : Int) < (a.size : Int) + b.size := by omega
          have HSA := Lib.hid SA
          have HSB := Lib.hid SB
          have HSZ := Lib.hid SZ
          clear hoE hsz2 oa xe xb SA SB SZ hzs hzd hT hsum OP
          go_wp2_with fail
          refine (HSA.out w1 (HG.out.below HB1.out)).out.mono ?_
          rintro e w2 ⟨v, rfl, hO, hb2⟩
          obtain ⟨Aa, ca, rfl⟩ := own_len hO
          have HRa := Lib.hid (show TRd w2 w2.heap.size Aa (scanL a) from Rd.of_own hO)
          have HB2 := Lib.hid (HB1.out.trans (hb2.mono HB1.out.size))
          clear hO hb2
          go_wp2_with fail
          refine (HSB.out w2 (HG.out.below HB2.out)).out.mono ?_
          rintro e w3 ⟨v, rfl, hO, hb3⟩
          obtain ⟨Ab, cb, rfl⟩ := own_len hO
          have HRb := Lib.hid (show TRd w3 w3.heap.size Ab (scanL b) from Rd.of_own hO)
          have HRa3 := Lib.hid ((HRa.out.below hb3).more hb3.size)
          have HB3 := Lib.hid (HB2.out.trans (hb3.mono HB2.out.size))
          clear hO hb3 HRa
          go_wp2_with fail
          refine (HSZ.out w3 (HG.out.below HB3.out)).out.mono ?_
          rintro e w4 ⟨v, rfl, hO, hb4⟩
          obtain ⟨Az, cz, rfl⟩ := own_len hO
          have HRz := Lib.hid (show TRd w4 w4.heap.size Az (scanL (a ++ ⟨#[10]⟩ ++ b)) from Rd.of_own hO)
          have HRb4 := Lib.hid ((HRb.out.below hb4).more hb4.size)
          have HRa4 := Lib.hid ((HRa3.out.below hb4).more hb4.size)
          have HB4 := Lib.hid (HB3.out.trans (hb4.mono HB3.out.size))
          clear hO hb4 HRb HRa3
          have HBX := HB4
          go_wp2_with fail
          refine (HAW.out _ (HG.out.below HBX.out)).out.mono ?_
          rintro e w7 ⟨rfl, hb7⟩
          have HB7 := Lib.hid (HBX.out.trans (hb7.mono HBX.out.size))
          clear hb7
          go_wp2
          go_ret
          exact ⟨rfl, HB7.out⟩
      · have HBX := HB1
        clear ho hb1 HB1
        go_wp2_with fail
        refine (HAW.out _ (HG.out.below HBX.out)).out.mono ?_
        rintro e w7 ⟨rfl, hb7⟩
        have HB7 := Lib.hid (HBX.out.trans (hb7.mono HBX.out.size))
        clear hb7
        go_wp2
        go_ret
        exact ⟨rfl, HB7.out⟩
    · obtain ⟨k, hk⟩ : ∃ k, a.size = k + 1 := ⟨a.size - 1, by omega⟩
      have hE := emptyF a (by omega)
      have hkl : k < a.size := by omega
      have hl := last_at a k hk
      have hkI : (a.size : Int) - 1 = k := by omega
      have hklI : (k : Int) < a.size := by omega
      clear h0
      by_cases c92 : (a[k]'hkl).toNat = 92
      · have c92I : (((a[k]'hkl).toNat : Nat) : Int) = 92 := by omega
        have HBX := Lib.hid (Below.refl w.heap.size w)
        clear c92 hl hsum hk
        go_enter Tryd.func6, Tryd.ntmps6
        go_wp2_with fail
        refine (HAW.out _ (HG.out.below HBX.out)).out.mono ?_
        rintro e w7 ⟨rfl, hb7⟩
        have HB7 := Lib.hid (HBX.out.trans (hb7.mono HBX.out.size))
        clear hb7
        go_wp2
        go_ret
        exact ⟨rfl, HB7.out⟩
      · have c92I : ¬ (((a[k]'hkl).toNat : Nat) : Int) = 92 := by omega
        have c92B : ((((a[k]'hkl).toNat : Nat) : Int) == 92) = false := by simpa using c92I
        by_cases c13 : (a[k]'hkl).toNat = 13
        · have c13I : (((a[k]'hkl).toNat : Nat) : Int) = 13 := by omega
          have HBX := Lib.hid (Below.refl w.heap.size w)
          clear c92 c13 hl hsum hk
          go_enter Tryd.func6, Tryd.ntmps6
          go_wp2_with fail
          refine (HAW.out _ (HG.out.below HBX.out)).out.mono ?_
          rintro e w7 ⟨rfl, hb7⟩
          have HB7 := Lib.hid (HBX.out.trans (hb7.mono HBX.out.size))
          clear hb7
          go_wp2
          go_ret
          exact ⟨rfl, HB7.out⟩
        · have c13I : ¬ (((a[k]'hkl).toNat : Nat) : Int) = 13 := by omega
          have c13B : ((((a[k]'hkl).toNat : Nat) : Int) == 13) = false := by simpa using c13I
          have hT : Tail a.data.toList := by
            unfold Tail
            rw [hl]
            refine ⟨fun g => c92 ?_, fun g => c13 ?_⟩
            · rw [Option.some.inj g]; rfl
            · rw [Option.some.inj g]; rfl
          clear c92 c13 hl hk
          go_enter Tryd.func6, Tryd.ntmps6
          go_wp2_with fail
          refine OP.out.mono ?_
          rintro e w1 ⟨o, rfl, ho, hb1⟩
          have HB1 := Lib.hid hb1
          cases o
          · have hoE := ho rfl
            clear ho hb1
            have hsz2 : (a ++ ⟨#[10]⟩ ++ b : ByteArray).size ≤ 200000 := by omega
            by_cases oa : scanOk a = true
            · obtain ⟨xa, xe⟩ := scan_eq a oa
              simp only [xa, xe] at SA
              by_cases ob : scanOk b = true
              · obtain ⟨ya, ye⟩ := scan_eq b ob
                simp only [ya, ye] at SB
                by_cases oz : scanOk (a ++ ⟨#[10]⟩ ++ b) = true
                · obtain ⟨za, ze⟩ := scan_eq (a ++ ⟨#[10]⟩ ++ b) oz
                  simp only [za, ze] at SZ
                  rw [hzd] at SZ
                  have hlx : (tokR true 0 a.data.toList).length ≤ 40000 := by rw [← xa]; exact scanL_len a
                  have hly : (tokR true 0 b.data.toList).length ≤ 40000 := by rw [← ya]; exact scanL_len b
                  have hYA : ∀ (j : Nat) (h : j < (tokR true 0 b.data.toList).length), ((tokR true 0 b.data.toList)[j].a : Int) ≤ 200000 := fun j h => by
                    have := tok_alen b.data.toList.length true 0 b.data.toList (Nat.le_refl _) _ (List.getElem_mem h)
                    simp at this
                    omega
                  have hYB : ∀ (j : Nat) (h : j < (tokR true 0 b.data.toList).length), ((tokR true 0 b.data.toList)[j].b.size : Int) ≤ 200000 := fun j h => by
                    have := tok_blen b.data.toList.length true 0 b.data.toList (Nat.le_refl _) _ (List.getElem_mem h)
                    simp at this
                    omega
                  have hXB : ∀ (j : Nat) (h : j < (tokR true 0 a.data.toList).length), ((tokR true 0 a.data.toList)[j].b.size : Int) ≤ 200000 := fun j h => by
                    have := tok_blen a.data.toList.length true 0 a.data.toList (Nat.le_refl _) _ (List.getElem_mem h)
                    simp at this
                    omega
                  have hsl : a.data.toList.length = a.size := by simp
                  obtain ⟨kx, hTW⟩ := two_facts a.data.toList b.data.toList hT (by rw [hsl]; exact hoE) _ _ _ rfl rfl rfl
                  rw [hsl] at hTW
                  generalize tokR true 0 a.data.toList = x at *
                  generalize tokR true 0 b.data.toList = y at *
                  generalize tokR true 0 (a.data.toList ++ 10 :: b.data.toList) = z at *
                  have h1 := hTW.lx
                  have h2 := hTW.ly
                  have h3 := hTW.lz
                  have lxI : (x.length : Int) = kx + 1 := by omega
                  have lzI : (z.length : Int) = kx + y.length := by omega
                  have lyI : (0 : Int) < y.length := by omega
                  have kxI : (kx : Int) ≤ 40000 := by omega
                  have lyb : (y.length : Int) ≤ 40000 := by omega
                  have lx0 : ((kx : Int) + 1 == 0) = false := by simp; omega
                  have ly0 : ((y.length : Int) == 0) = false := by rw [beq_eq_false_iff_ne, ne_eq]; omega
                  have lsm : (kx : Int) + 1 + y.length - 1 = kx + y.length := by omega
                  have hsaI : (a.size : Int) ≤ 200000 := by have h9 := HSUM.out; omega
                  have HSA := Lib.hid SA
                  have HSB := Lib.hid SB
                  have HSZ := Lib.hid SZ
                  have HTW := Lib.hid hTW
                  have HYA := Lib.hid hYA
                  have HYB := Lib.hid hYB
                  have HXB := Lib.hid hXB
                  clear hoE hsz2 oa ob oz xa xe ya ye za ze hlx hly hYA hYB hXB hsl hTW h1 h2 h3 SA SB SZ hzs hzd hT hsum OP
                  go_wp2_with fail
                  refine (HSA.out w1 (HG.out.below HB1.out)).out.mono ?_
                  rintro e w2 ⟨v, rfl, hO, hb2⟩
                  obtain ⟨Aa, ca, rfl⟩ := own_len hO
                  have HRa := Lib.hid (show TRd w2 w2.heap.size Aa x from Rd.of_own hO)
                  have HB2 := Lib.hid (HB1.out.trans (hb2.mono HB1.out.size))
                  clear hO hb2
                  go_wp2_with fail
                  refine (HSB.out w2 (HG.out.below HB2.out)).out.mono ?_
                  rintro e w3 ⟨v, rfl, hO, hb3⟩
                  obtain ⟨Ab, cb, rfl⟩ := own_len hO
                  have HRb := Lib.hid (show TRd w3 w3.heap.size Ab y from Rd.of_own hO)
                  have HRa3 := Lib.hid ((HRa.out.below hb3).more hb3.size)
                  have HB3 := Lib.hid (HB2.out.trans (hb3.mono HB2.out.size))
                  clear hO hb3 HRa
                  go_wp2_with fail
                  refine (HSZ.out w3 (HG.out.below HB3.out)).out.mono ?_
                  rintro e w4 ⟨v, rfl, hO, hb4⟩
                  obtain ⟨Az, cz, rfl⟩ := own_len hO
                  have HRz := Lib.hid (show TRd w4 w4.heap.size Az z from Rd.of_own hO)
                  have HRb4 := Lib.hid ((HRb.out.below hb4).more hb4.size)
                  have HRa4 := Lib.hid ((HRa3.out.below hb4).more hb4.size)
                  have HB4 := Lib.hid (HB3.out.trans (hb4.mono HB3.out.size))
                  clear hO hb4 HRb HRa3
                  go_wp2_with fail
                  go_loopw [11] (fun vi wr => ∃ i : Nat, i ≤ z.length ∧ vi = .int .i64 i ∧ Hid (Below w4.heap.size w4 wr)) (fun vi _ => z.length - (intOf vi).toNat)
                  case atStart => exact ⟨0, Nat.zero_le _, rfl, Below.refl _ _⟩
                  case round =>
                    obtain ⟨i, hi, rfl, hbr⟩ := hrel
                    by_cases hlt : i < z.length
                    · have hltZ : (i : Int) < kx + y.length := by rw [← lzI]; omega
                      by_cases hlow : i < kx
                      · have hlx : i < x.length := by omega
                        obtain ⟨b1, o1, e1, hB1', c0, c1, c2, c3⟩ := TRd.at_ (TRd.below HRz.out hbr.out) i hlt
                        obtain ⟨b2, o2, e2, hB2', d0, d1, d2, d3⟩ := TRd.at_ (TRd.below HRa4.out hbr.out) i hlx
                        cases e1
                        cases e2
                        rw [HTW.out.low i hlow hlt hlx] at c0 c1 c2 c3
                        generalize x[i] = t at *
                        have hnq := fun W => run_neqTk t t W
                        rw [show (!decide (t = t)) = false by simp] at hnq
                        have hneg : (i : Int) - kx < 0 := by omega
                        have hltX : (i : Int) < kx + 1 := by omega
                        have hwr : IntKind.i64.wrap ((i : Int) - kx) = (i : Int) - kx := IntWalk.i64_in _ (by omega)
                        clear hlow hlx
                        go_wp2
                        go_region
                        go_wp2
                        go_roundw
                        case rel => exact ⟨i + 1, by omega, by go_num, ⟨hbr.out.os, hbr.out.tape, hbr.out.output, hbr.out.size, hbr.out.block⟩⟩
                        case measure => simp [intOf]; omega
                      · obtain ⟨j, rfl⟩ := Nat.le.dest (Nat.le_of_not_lt hlow)
                        have hjl : j < y.length := by have := HTW.out.lz; omega
                        have hkx : kx < x.length := by have := HTW.out.lx; omega
                        have hijI : ((kx + j : Nat) : Int) = kx + j := by omega
                        have hjlI : (j : Int) < y.length := by omega
                        have hj0 : ¬ (j : Int) < 0 := by omega
                        have hkxI : (kx : Int) < kx + 1 := by omega
                        have hjb : (j : Int) ≤ 40000 := by omega
                        obtain ⟨b1, o1, e1, hB1', c0, c1, c2, c3⟩ := TRd.at_ (TRd.below HRz.out hbr.out) (kx + j) hlt
                        obtain ⟨b2, o2, e2, hB2', d0, d1, d2, d3⟩ := TRd.at_ (TRd.below HRb4.out hbr.out) j hjl
                        obtain ⟨b3, o3, e3, hB3', f0, f1, f2, f3⟩ := TRd.at_ (TRd.below HRa4.out hbr.out) kx hkx
                        cases e1
                        cases e2
                        cases e3
                        obtain ⟨k1, k2, k3⟩ := HTW.out.k j hjl hlt
                        rw [k1] at c0
                        rw [k2] at c2
                        rw [k3] at c3
                        have hya : ((y[j].a + a.size + 1 : Nat) : Int) = y[j].a + a.size + 1 := by omega
                        have hyb : (y[j].a : Int) ≤ 200000 := HYA.out j hjl
                        have hbz : (y[j].b.size : Int) ≤ 200000 := HYB.out j hjl
                        have hxz : (x[kx].b.size : Int) ≤ 200000 := HXB.out kx hkx
                        have heq : ((y[j].a : Int) + a.size + 1 == (y[j].a : Int) + a.size + 1) = true := by simp
                        by_cases hj : j = 0
                        · subst hj
                          have hb0 := HTW.out.b0 hjl hlt hkx
                          rw [hb0] at c1
                          clear hb0 k1 k2 k3 hlow hj0 f0 f2 f3 hijI
                          simp only [Nat.zero_mul, Nat.add_zero] at *
                          generalize y[0].k = yk at *
                          generalize y[0].b = yb at *
                          generalize y[0].x = yx at *
                          generalize y[0].a = ya at *
                          generalize x[kx].b = xb at *
                          go_wp2
                          go_quiet (fail)
                          go_wp2
                          go_roundw
                          case rel => exact ⟨_, hlt, by go_num, ⟨hbr.out.os, hbr.out.tape, hbr.out.output, hbr.out.size, hbr.out.block⟩⟩
                          case measure => simp [intOf]; omega
                        · have hjn : ¬ (j : Int) = 0 := by omega
                          have hjB : ((j : Int) == 0) = false := by simpa using hjn
                          have hb1 := HTW.out.b j hjl hlt (by omega)
                          rw [hb1] at c1
                          clear hb1 k1 k2 k3 hlow f0 f1 f2 f3 hj
                          generalize y[j].k = yk at *
                          generalize y[j].b = yb at *
                          generalize y[j].x = yx at *
                          generalize y[j].a = ya at *
                          go_wp2
                          go_quiet (fail)
                          go_wp2
                          go_roundw
                          case rel => exact ⟨_, hlt, by go_num, ⟨hbr.out.os, hbr.out.tape, hbr.out.output, hbr.out.size, hbr.out.block⟩⟩
                          case measure => simp [intOf]; omega
                    · obtain rfl : i = z.length := by omega
                      have hni : ¬ (z.length : Int) < z.length := by omega
                      have HBX := Lib.hid (HB4.out.trans (hbr.out.mono HB4.out.size))
                      clear hlt
                      go_wp2_with fail
                      refine (HAW.out _ (HG.out.below HBX.out)).out.mono ?_
                      rintro e w7 ⟨rfl, hb7⟩
                      have HB7 := Lib.hid (HBX.out.trans (hb7.mono HBX.out.size))
                      clear hb7
                      go_wp2
                      go_ret
                      exact ⟨rfl, HB7.out⟩
                · have ze := scan_ne (a ++ ⟨#[10]⟩ ++ b) (by simpa using oz)
                  have zb := scan_big (a ++ ⟨#[10]⟩ ++ b) hsz2 (by simpa using oz)
                  simp only [ze] at SZ
                  have hbigI : (10000 : Int) < (a.size : Int) + b.size := by omega
                  generalize tokR true 0 a.data.toList = x at *
                  generalize tokR true 0 b.data.toList = y at *
                  have HSA := Lib.hid SA
                  have HSB := Lib.hid SB
                  have HSZ := Lib.hid SZ
                  clear hoE hsz2 oa ob oz xa xe ya ye ze zb SA SB SZ hzs hzd hT hsum OP
                  go_wp2_with fail
                  refine (HSA.out w1 (HG.out.below HB1.out)).out.mono ?_
                  rintro e w2 ⟨v, rfl, hO, hb2⟩
                  obtain ⟨Aa, ca, rfl⟩ := own_len hO
                  have HRa := Lib.hid (show TRd w2 w2.heap.size Aa x from Rd.of_own hO)
                  have HB2 := Lib.hid (HB1.out.trans (hb2.mono HB1.out.size))
                  clear hO hb2
                  go_wp2_with fail
                  refine (HSB.out w2 (HG.out.below HB2.out)).out.mono ?_
                  rintro e w3 ⟨v, rfl, hO, hb3⟩
                  obtain ⟨Ab, cb, rfl⟩ := own_len hO
                  have HRb := Lib.hid (show TRd w3 w3.heap.size Ab y from Rd.of_own hO)
                  have HRa3 := Lib.hid ((HRa.out.below hb3).more hb3.size)
                  have HB3 := Lib.hid (HB2.out.trans (hb3.mono HB2.out.size))
                  clear hO hb3 HRa
                  go_wp2_with fail
                  refine (HSZ.out w3 (HG.out.below HB3.out)).out.mono ?_
                  rintro e w4 ⟨v, rfl, hO, hb4⟩
                  obtain ⟨Az, cz, rfl⟩ := own_len hO
                  have HRz := Lib.hid (show TRd w4 w4.heap.size Az (scanL (a ++ ⟨#[10]⟩ ++ b)) from Rd.of_own hO)
                  have HRb4 := Lib.hid ((HRb.out.below hb4).more hb4.size)
                  have HRa4 := Lib.hid ((HRa3.out.below hb4).more hb4.size)
                  have HB4 := Lib.hid (HB3.out.trans (hb4.mono HB3.out.size))
                  clear hO hb4 HRb HRa3
                  have HBX := HB4
                  go_wp2_with fail
                  refine (HAW.out _ (HG.out.below HBX.out)).out.mono ?_
                  rintro e w7 ⟨rfl, hb7⟩
                  have HB7 := Lib.hid (HBX.out.trans (hb7.mono HBX.out.size))
                  clear hb7
                  go_wp2
                  go_ret
                  exact ⟨rfl, HB7.out⟩
              · have ye := scan_ne b (by simpa using ob)
                have yb := scan_big b (by omega) (by simpa using ob)
                simp only [ye] at SB
                have hbigI : (10000 : Int) < (a.size : Int) + b.size := by omega
                generalize tokR true 0 a.data.toList = x at *
                have HSA := Lib.hid SA
                have HSB := Lib.hid SB
                have HSZ := Lib.hid SZ
                clear hoE hsz2 oa ob xa xe ye yb SA SB SZ hzs hzd hT hsum OP
                go_wp2_with fail
                refine (HSA.out w1 (HG.out.below HB1.out)).out.mono ?_
                rintro e w2 ⟨v, rfl, hO, hb2⟩
                obtain ⟨Aa, ca, rfl⟩ := own_len hO
                have HRa := Lib.hid (show TRd w2 w2.heap.size Aa x from Rd.of_own hO)
                have HB2 := Lib.hid (HB1.out.trans (hb2.mono HB1.out.size))
                clear hO hb2
                go_wp2_with fail
                refine (HSB.out w2 (HG.out.below HB2.out)).out.mono ?_
                rintro e w3 ⟨v, rfl, hO, hb3⟩
                obtain ⟨Ab, cb, rfl⟩ := own_len hO
                have HRb := Lib.hid (show TRd w3 w3.heap.size Ab (scanL b) from Rd.of_own hO)
                have HRa3 := Lib.hid ((HRa.out.below hb3).more hb3.size)
                have HB3 := Lib.hid (HB2.out.trans (hb3.mono HB2.out.size))
                clear hO hb3 HRa
                go_wp2_with fail
                refine (HSZ.out w3 (HG.out.below HB3.out)).out.mono ?_
                rintro e w4 ⟨v, rfl, hO, hb4⟩
                obtain ⟨Az, cz, rfl⟩ := own_len hO
                have HRz := Lib.hid (show TRd w4 w4.heap.size Az (scanL (a ++ ⟨#[10]⟩ ++ b)) from Rd.of_own hO)
                have HRb4 := Lib.hid ((HRb.out.below hb4).more hb4.size)
                have HRa4 := Lib.hid ((HRa3.out.below hb4).more hb4.size)
                have HB4 := Lib.hid (HB3.out.trans (hb4.mono HB3.out.size))
                clear hO hb4 HRb HRa3
                have HBX := HB4
                go_wp2_with fail
                refine (HAW.out _ (HG.out.below HBX.out)).out.mono ?_
                rintro e w7 ⟨rfl, hb7⟩
                have HB7 := Lib.hid (HBX.out.trans (hb7.mono HBX.out.size))
                clear hb7
                go_wp2
                go_ret
                exact ⟨rfl, HB7.out⟩
            · have xe := scan_ne a (by simpa using oa)
              have xb := scan_big a (by omega) (by simpa using oa)
              simp only [xe] at SA
              have hbigI : (10000 : Int) < (a.size : Int) + b.size := by omega
              have HSA := Lib.hid SA
              have HSB := Lib.hid SB
              have HSZ := Lib.hid SZ
              clear hoE hsz2 oa xe xb SA SB SZ hzs hzd hT hsum OP
              go_wp2_with fail
              refine (HSA.out w1 (HG.out.below HB1.out)).out.mono ?_
              rintro e w2 ⟨v, rfl, hO, hb2⟩
              obtain ⟨Aa, ca, rfl⟩ := own_len hO
              have HRa := Lib.hid (show TRd w2 w2.heap.size Aa (scanL a) from Rd.of_own hO)
              have HB2 := Lib.hid (HB1.out.trans (hb2.mono HB1.out.size))
              clear hO hb2
              go_wp2_with fail
              refine (HSB.out w2 (HG.out.below HB2.out)).out.mono ?_
              rintro e w3 ⟨v, rfl, hO, hb3⟩
              obtain ⟨Ab, cb, rfl⟩ := own_len hO
              have HRb := Lib.hid (show TRd w3 w3.heap.size Ab (scanL b) from Rd.of_own hO)
              have HRa3 := Lib.hid ((HRa.out.below hb3).more hb3.size)
              have HB3 := Lib.hid (HB2.out.trans (hb3.mono HB2.out.size))
              clear hO hb3 HRa
              go_wp2_with fail
              refine (HSZ.out w3 (HG.out.below HB3.out)).out.mono ?_
              rintro e w4 ⟨v, rfl, hO, hb4⟩
              obtain ⟨Az, cz, rfl⟩ := own_len hO
              have HRz := Lib.hid (show TRd w4 w4.heap.size Az (scanL (a ++ ⟨#[10]⟩ ++ b)) from Rd.of_own hO)
              have HRb4 := Lib.hid ((HRb.out.below hb4).more hb4.size)
              have HRa4 := Lib.hid ((HRa3.out.below hb4).more hb4.size)
              have HB4 := Lib.hid (HB3.out.trans (hb4.mono HB3.out.size))
              clear hO hb4 HRb HRa3
              have HBX := HB4
              go_wp2_with fail
              refine (HAW.out _ (HG.out.below HBX.out)).out.mono ?_
              rintro e w7 ⟨rfl, hb7⟩
              have HB7 := Lib.hid (HBX.out.trans (hb7.mono HBX.out.size))
              clear hb7
              go_wp2
              go_ret
              exact ⟨rfl, HB7.out⟩
          · have HBX := HB1
            clear ho hb1 HB1
            go_wp2_with fail
            refine (HAW.out _ (HG.out.below HBX.out)).out.mono ?_
            rintro e w7 ⟨rfl, hb7⟩
            have HB7 := Lib.hid (HBX.out.trans (hb7.mono HBX.out.size))
            clear hb7
            go_wp2
            go_ret
            exact ⟨rfl, HB7.out⟩
  · have hsI : (199999 : Int) < (a.size : Int) + b.size := by omega
    clear AW hG ha hb hsum
    have HBX := Lib.hid (Below.refl w.heap.size w)
    go_enter Tryd.func6, Tryd.ntmps6
    go_wp2_with fail
    refine (HAW.out _ (HG.out.below HBX.out)).out.mono ?_
    rintro e w7 ⟨rfl, hb7⟩
    have HB7 := Lib.hid (HBX.out.trans (hb7.mono HBX.out.size))
    clear hb7
    go_wp2
    go_ret
    exact ⟨rfl, HB7.out⟩

end Go.Proofs.YtihnafocjognaaaDoor
