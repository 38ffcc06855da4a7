/- TextBack: the walk of the law. -/
import Derived.Test.YtgpmodbndngcoaaDoorInverse
import Derived.Test.YtgpmodbndngcoaaDoorApp
import Derived.Test.YtgpmodbndngcoaaDoorSide
import Derived.Deep.DeepCutAuto
namespace Go.Proofs.YtgpmodbndngcoaaDoor
open Go.RowKit Go.Maps

theorem apply_ok (s : ByteArray) (v : Value) (l : List Ed) (w : World) (hs : s.size ≤ 140737488355328) (hl : l.length ≤ 1000000) (hT : SmallT l) (h0 : applF s.size l = 0) (h : IsE w v l) :
    Calls Tryd.prog 19 #[.string s, v] w fun e w' => e = .returned (.tuple #[.string (behind s l), .int .i64 0]) ∧ Below w.heap.size w w' := by
  have := apply_any s v l w hs hl hT h
  rw [if_pos h0, h0] at this
  exact this

theorem apply_no (s : ByteArray) (v : Value) (l : List Ed) (w : World) (hs : s.size ≤ 140737488355328) (hl : l.length ≤ 1000000) (hT : SmallT l) (h0 : applF s.size l ≠ 0) (h : IsE w v l) :
    Calls Tryd.prog 19 #[.string s, v] w fun e w' => e = .returned (.tuple #[.string ⟨#[]⟩, .int .i64 (applF s.size l)]) ∧ Below w.heap.size w w' := by
  have := apply_any s v l w hs hl hT h
  rw [if_neg h0] at this
  exact this

theorem inverse_ok (s : ByteArray) (v : Value) (l : List Ed) (w : World) (hs : s.size ≤ 140737488355328) (hl : l.length ≤ 1000000) (hT : SmallT l) (h0 : applF s.size l = 0) (h : IsE w v l) :
    Calls Tryd.prog 23 #[.string s, v] w fun e w' => ∃ v', e = .returned (.tuple #[v', .int .i64 0]) ∧ IsE w' v' (backF s l) ∧ Below w.heap.size w w' := by
  have := inverse_any s v l w hs hl hT h
  rw [if_pos h0, h0] at this
  exact this

theorem heavyF_no {s : ByteArray} {l : List Ed} (h : heavyF s l = false) : s.size ≤ 6000 ∧ (∀ x ∈ l, x.s.size ≤ 6000) ∧ (60 < l.length → 10000 < l.length) := by
  unfold heavyF at h
  simp only [Bool.or_eq_false_iff, Bool.and_eq_false_iff, decide_eq_false_iff_not] at h
  refine ⟨by omega, fun x hx => ?_, by omega⟩
  have := textsF_mem l x hx
  omega

/-- Below, with the heap's growth at hand -/
theorem chainB {w a b : World} (h : Below w.heap.size w a) (k : Below a.heap.size a b) : Below w.heap.size w b := h.trans (k.mono h.size)

theorem EB.below' {w w' : World} {B g : Nat} {l : List Ed} (h : EB w g l) (hb : Below B w w') (hg : g < B) : EB w' g l := by
  obtain ⟨cur, h1, h2, h3⟩ := h
  exact ⟨cur, (hb.block g hg).trans h1, h2, h3⟩

theorem mem_swap (m : List Ed) (k n : Nat) (hk : k < m.length) (hn : n < m.length) (z : Ed) : z ∈ (m.set k m[n]).set n m[k] ↔ z ∈ m := by
  constructor
  · intro h
    rcases List.mem_or_eq_of_mem_set h with h | rfl
    · rcases List.mem_or_eq_of_mem_set h with h | rfl
      · exact h
      · exact List.getElem_mem _
    · exact List.getElem_mem _
  · intro h
    obtain ⟨i, hi, rfl⟩ := List.getElem_of_mem h
    by_cases e1 : i = k
    · subst e1
      have : ((m.set i m[n]).set n m[i])[n]'(by simpa using hn) = m[i] := by simp
      exact List.mem_of_getElem this
    · by_cases e2 : i = n
      · subst e2
        have : ((m.set k m[i]).set i m[k])[k]'(by simpa using hk) = m[i] := by
          rw [List.getElem_set_ne e1]; simp
        exact List.mem_of_getElem this
      · have : ((m.set k m[n]).set n m[k])[i]'(by simpa using hi) = m[i] := by
          rw [List.getElem_set_ne (Ne.symm e2), List.getElem_set_ne (Ne.symm e1)]
        exact List.mem_of_getElem this

set_option maxHeartbeats 4000000 in
set_option maxRecDepth 100000 in
/-- what is not heavy, and applied -/
theorem textBack_main (haw : ∀ W, Tab W → Calls Tryd.prog 17 #[] W fun e w' => e = .returned (.bool true) ∧ Below W.heap.size W w')
    (s : ByteArray) (A : Option Addr) (l : List Ed) (c : Nat) (B : Option Addr) (sd : List Nat) (d : Nat) (w : World) (ht : Tab w)
    (hs : s.size ≤ 6000) (hl : l.length ≤ 60) (hx : ∀ x ∈ l, x.s.size ≤ 6000) (hq : heavyF s l = false) (hE : IsE w (.slice A l.length c) l)
    (hd : sd.length ≤ 140737488355328) (hB : Rd w w.heap.size B (sd.map fun n : Nat => Value.int .u8 n)) (hv : ∀ n ∈ sd, n < 256) (h0 : applF s.size l = 0) :
    Calls Tryd.prog 7 #[.string s, .slice A l.length c, .slice B sd.length d] w fun e w' => e = .returned (.bool true) ∧ Below w.heap.size w w' := by
  obtain ⟨b1, b2, b3, b4, b5⟩ := back_ok h0
  have hbs := behind_size h0
  have hT : SmallT l := fun x hx' => by have := hx x hx'; omega
  have hTb : SmallT (backF s l) := fun x hx' => by have := b5 x hx'; omega
  obtain ⟨a1, a2, a3, a4, a5⟩ := back_ok b1
  have hTa : SmallT (backF (behind s l) (backF s l)) := fun x hx' => by have := a5 x hx'; omega
  rw [b3] at a1 a3
  have HV := fun W => heavy_any A c s l W (by omega) (by omega) (fun x hx' => by have := hx x hx'; omega)
  rw [hq] at HV
  have C1 := fun W => apply_ok s (.slice A l.length c) l W (by omega) (by omega) hT h0
  have C2 := fun W => inverse_ok s (.slice A l.length c) l W (by omega) (by omega) hT h0
  have C3 := fun v W => apply_ok (behind s l) v (backF s l) W (by omega) (by omega) hTb b1
  rw [b3] at C3
  have C4 := fun v W => inverse_ok (behind s l) v (backF s l) W (by omega) (by omega) hTb b1
  have C5 := fun v W => apply_ok s v (backF (behind s l) (backF s l)) W (by omega) (by omega) hTa a1
  rw [a3] at C5
  have C6 : ∀ (v : Value) (m : List Ed) (W : World), m.length = l.length → (∀ x, x ∈ m ↔ x ∈ l) → IsE W v m → Calls Tryd.prog 19 #[.string s, v] W fun e w' => e = .returned (.tuple #[.string (behind s l), .int .i64 0]) ∧ Below W.heap.size W w' := fun v m W hm hmem hI => by
    have := apply_ok s v m W (by omega) (by omega) (fun x hx' => hT x ((hmem x).1 hx')) (by rw [applF_congr hm hmem]; exact h0) hI
    rwa [show behind s m = behind s l by unfold behind; rw [ordF_congr hmem]] at this
  generalize behind s l = t at *
  generalize hbk : backF s l = bk at *
  generalize hag : backF t bk = ag at *
  have hEl : ESl w w.heap.size A l := by obtain ⟨A', c', e, _, _, _, h⟩ := hE; cases e; exact h
  have HV' := Lib.hid HV
  have HC1 := Lib.hid C1
  have HC2 := Lib.hid C2
  have HC3 := Lib.hid C3
  have HC4 := Lib.hid C4
  have HC5 := Lib.hid C5
  have HC6 := Lib.hid C6
  have HE := Lib.hid hE
  have HEl := Lib.hid hEl
  have HBR := Lib.hid hB
  have HVL := Lib.hid hv
  have HT := Lib.hid ht
  have HAW := Lib.hid haw
  clear b1 b2 b3 b4 b5 a1 a2 a3 a4 a5 hbs hT hTb hTa HV C1 C2 C3 C4 C5 C6 hE hEl hB hv ht haw hx hq h0 hbk hag
  go_enter Tryd.func7, Tryd.ntmps7
  go_wp2_with fail
  refine (HV'.out _ HEl.out).mono ?_
  rintro e w1 ⟨rfl, hb1⟩
  have HB1 := Lib.hid hb1
  clear hb1
  have hl2 : ¬ (60 : Int) < l.length := by omega
  go_wp2_with fail
  refine (HC1.out _ (IsE.below HE.out HB1.out)).mono ?_
  rintro e w2 ⟨rfl, hb2⟩
  have HB2 := Lib.hid (chainB HB1.out hb2)
  clear hb2 HB1
  go_wp2_with fail
  refine (HC2.out _ (IsE.below HE.out HB2.out)).mono ?_
  rintro e w3 ⟨v3, rfl, hI3, hb3⟩
  have HB3 := Lib.hid (chainB HB2.out hb3)
  have HI3 := Lib.hid hI3
  clear hb3 HB2 hI3
  go_wp2_with fail
  refine (HC3.out _ _ HI3.out).mono ?_
  rintro e w4 ⟨rfl, hb4⟩
  have HB4 := Lib.hid (chainB HB3.out hb4)
  have HI4 := Lib.hid (IsE.below HI3.out hb4)
  clear hb4 HB3 HI3
  go_wp2_with fail
  refine (HC4.out _ _ HI4.out).mono ?_
  rintro e w5 ⟨v5, rfl, hI5, hb5⟩
  have HB5 := Lib.hid (chainB HB4.out hb5)
  have HI5 := Lib.hid hI5
  clear hb5 HB4 HI4 hI5
  go_wp2_with fail
  refine (HC5.out _ _ HI5.out).mono ?_
  rintro e w6 ⟨rfl, hb6⟩
  have HB6 := Lib.hid (chainB HB5.out hb6)
  clear hb6 HB5 HI5 HC1 HC2 HC3 HC4 HC5 HV'
  obtain ⟨A', c', e, hA, hc1, hc2, _⟩ := HE.out
  cases e
  obtain ⟨i0, hi, hz0, hz1, hz2⟩ := info_parts infoEd
  unfold maxLen at hc2
  have hb6s := HB6.out.size
  by_cases hl0 : l = []
  · subst hl0
    simp only [List.length_nil] at *
    rcases A with _ | ad
    · obtain ⟨_, rfl⟩ := hA rfl
      have HBX := Lib.hid (HB6.out.alloc hb6s (.cells #[] 46))
      clear hA hc1 hc2
      go_wp2_with fail
      go_loopw [18] (fun vi wr => vi = .int .i64 0 ∧ Below w.heap.size w wr) (fun _ _ => 0)
      case atStart => exact ⟨rfl, HBX.out⟩
      case round =>
        obtain ⟨rfl, hb⟩ := hrel
        have hb' := Lib.hid hb
        clear hb
        go_wp2_with fail
        refine (HC6.out _ [] _ rfl (fun _ => Iff.rfl) ⟨_, _, rfl, (fun e => by cases e), Nat.zero_le _, by unfold maxLen; omega, fun hl => by simp [cellsE] at hl⟩).mono ?_
        rintro e w8 ⟨rfl, hb8⟩
        have HB8 := Lib.hid (chainB hb'.out hb8)
        have A8 := Lib.hid (HAW.out w8 (HT.out.below HB8.out))
        clear hb8 hb'
        go_wp2_with fail
        refine A8.out.mono ?_
        rintro e w9 ⟨rfl, hb9⟩
        have HB9 := Lib.hid (chainB HB8.out hb9)
        clear hb9 HB8 A8
        go_wp2
        go_ret
        exact ⟨rfl, HB9.out⟩
    · have HO := Lib.hid (World.ownsRow_made (base := w6.heap.size) (size := 3) (e := 46) w6 #[] 0 (Nat.le_refl _) (Nat.zero_le _) rfl)
      go_wp2_with (at_builtin; refine wpList_append_own _ rfl (.tmp 87) (.tmp 88) 30 rfl w6.heap.size 46 i0 _ 3 32 Tryd.underlying30 hi hz0 hz1 hz2 rfl (by decide) _ 0 [] rfl HO.out ad 0 c [] rfl rfl (fun j u hu => by simp at hu) (fun u hu => by simp at hu) (by unfold maxLen; omega) (by omega) (by simp) ?_; intro v7 w7 hown7 hg7 _)
      have HBX := Lib.hid ((HB6.out.alloc hb6s (.cells #[] 46)).grown hg7 (by simp; omega) (fun k e => by cases e; exact hb6s))
      obtain ⟨X, cX, rfl, hcX⟩ : ∃ X cX, v7 = .slice X 0 cX ∧ cX ≤ maxLen ∧ (X = none → cX = 0) := by
        rcases hown7.2 with ⟨e, _⟩ | ⟨g, cap, cur, e, _, _, _, hc, _⟩
        · exact ⟨none, 0, e, Nat.zero_le _, fun _ => rfl⟩
        · exact ⟨_, cap, e, hc, fun e => by cases e⟩
      clear hown7 hg7 HO
      have HCX := Lib.hid hcX
      clear hcX
      go_wp2_with fail
      go_loopw [18] (fun vi wr => vi = .int .i64 0 ∧ Below w.heap.size w wr) (fun _ _ => 0)
      case atStart => exact ⟨rfl, HBX.out⟩
      case round =>
        obtain ⟨rfl, hb⟩ := hrel
        have hb' := Lib.hid hb
        clear hb
        go_wp2_with fail
        refine (HC6.out _ [] _ rfl (fun _ => Iff.rfl) ⟨_, _, rfl, (fun e => ⟨rfl, HCX.out.2 e⟩), Nat.zero_le _, HCX.out.1, fun hl => by simp [cellsE] at hl⟩).mono ?_
        rintro e w8 ⟨rfl, hb8⟩
        have HB8 := Lib.hid (chainB hb'.out hb8)
        have A8 := Lib.hid (HAW.out w8 (HT.out.below HB8.out))
        clear hb8 hb'
        go_wp2_with fail
        refine A8.out.mono ?_
        rintro e w9 ⟨rfl, hb9⟩
        have HB9 := Lib.hid (chainB HB8.out hb9)
        clear hb9 HB8 A8
        go_wp2
        go_ret
        exact ⟨rfl, HB9.out⟩
  · have hlp : 0 < l.length := by
      rcases Nat.eq_zero_or_pos l.length with h | h
      · exact absurd (List.eq_nil_of_length_eq_zero h) hl0
      · exact h
    obtain ⟨ad, rfl⟩ : ∃ ad, A = some ad := by
      rcases A with _ | ad
      · exact absurd (hA rfl).1 hl0
      · exact ⟨ad, rfl⟩
    have HN := Lib.hid (Rd.at_add (HEl.out.below (HB6.out.alloc hb6s (.cells #[] 46))))
    have HO := Lib.hid (World.ownsRow_made (base := w6.heap.size) (size := 3) (e := 46) w6 #[] 0 (Nat.le_refl _) (Nat.zero_le _) rfl)
    clear hA hl0
    go_wp2_with (at_builtin; refine wpList_append_own _ rfl (.tmp 87) (.tmp 88) 30 rfl w6.heap.size 46 i0 _ 3 32 Tryd.underlying30 hi hz0 hz1 hz2 rfl (by decide) _ 0 [] rfl HO.out ad l.length c (cellsE l) rfl (cellsE_length l) HN.out (fun u hu => cellsE_one hu) (by unfold maxLen; omega) (by omega) (by simp) ?_; intro v7 w7 hown7 hg7 _)
    have HBX := Lib.hid ((HB6.out.alloc hb6s (.cells #[] 46)).grown hg7 (by simp; omega) (fun k e => by cases e; exact hb6s))
    simp only [Nat.zero_add, List.nil_append] at hown7
    obtain ⟨g, cap, rfl, hgb, hglt⟩ := hown7.form hlp
    obtain ⟨hEB7, _, hcap1, hcap2⟩ := EB.of_own hown7
    have HEB := Lib.hid hEB7
    clear hown7 hg7 HO HN hEB7 HE HEl
    go_wp2_with fail
    go_loopw [18] (fun vi wr => ∃ (k : Nat) (m : List Ed), k ≤ l.length ∧ vi = .int .i64 k ∧ m.length = l.length ∧ Hid (∀ x, x ∈ m ↔ x ∈ l) ∧ Hid (EB wr g m) ∧ Hid (Below w.heap.size w wr)) (fun vi _ => l.length - (intOf vi).toNat)
    case atStart => exact ⟨0, l, Nat.zero_le _, rfl, rfl, (fun _ => Iff.rfl), HEB.out, HBX.out⟩
    case round =>
      obtain ⟨k, m, hk, rfl, hm, hmem, hEB, hb⟩ := hrel
      clear HEB HBX
      have hmI : (m.length : Int) = l.length := by omega
      by_cases hk2 : k < l.length ∧ k < sd.length
      · obtain ⟨hk3, hk4⟩ := hk2
        have hsd := (HBR.out.below hb.out)
        obtain ⟨b, off, rfl, hbw, hcs⟩ := hsd (by rw [List.length_map]; omega)
        have hcs1 := hcs k (.int .u8 sd[k]) (by rw [List.getElem?_map, List.getElem?_eq_getElem hk4]; rfl)
        have hv1 := HVL.out _ (List.getElem_mem hk4)
        generalize sd[k] = z at *
        have hz0' : (0 : Int) ≤ (z : Int) := by omega
        have hn1 : z % l.length < l.length := Nat.mod_lt _ hlp
        have hrem : ((z : Int) % (l.length : Int)) = ((z % l.length : Nat) : Int) := by omega
        generalize z % l.length = n at *
        have HREM := Lib.hid hrem
        clear hrem
        obtain ⟨x0, x1, x2⟩ := hEB.out.at_ k (by omega)
        obtain ⟨y0, y1, y2⟩ := hEB.out.at_ n (by omega)
        have hst1 := hEB.out.store k (by omega) m[n]
        have hmem2 : ∀ z : Ed, z ∈ (m.set k m[n]).set n m[k] ↔ z ∈ l := fun z => by rw [← hmem.out z]; exact mem_swap m k n (by omega) (by omega) z
        have HM2 := Lib.hid hmem2
        have HST1 := Lib.hid hst1
        generalize m[k] = x at *
        generalize m[n] = y at *
        have f0 := hEB.out.frozen (k * 3)
        have f1 := hEB.out.frozen (k * 3 + 1)
        have f2 := hEB.out.frozen (k * 3 + 2)
        have hmm := Lib.hid hm
        clear hsd hcs hm hmI hmem2 hst1
        have hkI : (k : Int) < l.length := by omega
        have hkI2 : (k : Int) < sd.length := by omega
        have hx7 := heap_alloc_new wr (.cells #[.int .i64 x.f, .int .i64 x.t, .string x.s] 46)
        have HX7 := Lib.hid hx7
        have hbs := hb.out.size
        have HBA := Lib.hid (hb.out.alloc hbs (.cells #[.int .i64 x.f, .int .i64 x.t, .string x.s] 46))
        have hgw := hEB.out.lt
        clear hx7
        go_upto_region 16 with (fail)
        go_cut [19] (fun v wx => v = .int .i64 (n : Int) ∧ wx = wr)
        case first =>
          go_wp2_with fail
          go_meet
          exact ⟨by rw [HREM.out], rfl⟩
        case rest =>
          obtain ⟨rfl, rfl⟩ := hcut
          obtain ⟨w8, hw8⟩ : ∃ x : World, x = wc := ⟨_, rfl⟩
          subst hw8
          go_upto_region 18 with (fail)
          go_cut [18] (fun v wx => v = .int .i64 (k : Int) ∧ Hid (EB wx g (m.set k y)) ∧ wx.heap[w8.heap.size]? = some (.cells #[.int .i64 x.f, .int .i64 x.t, .string x.s] 46 (0, 0)) ∧ Hid (Below w.heap.size w wx))
          case first =>
            go_wp2_with fail
            go_meet
            refine ⟨rfl, ?_, ?_, ?_⟩
            · exact HST1.out.below' ((Below.refl _ _).alloc (Nat.le_refl _) _) (by simpa [World.setCells, Ed.cells] using hgw)
            · have := heap_alloc_new (((w8.setCell ⟨g, k * 3, none⟩ (.int .i64 y.f)).setCell ⟨g, k * 3 + 1, none⟩ (.int .i64 y.t)).setCell ⟨g, k * 3 + 2, none⟩ (.string y.s)) (.cells #[.int .i64 x.f, .int .i64 x.t, .string x.s] 46)
              simpa using this
            · exact (((hb.out.setCell (p := ⟨g, k * 3, none⟩) (by show _ ≤ g; omega) _).setCell (p := ⟨g, k * 3 + 1, none⟩) (by show _ ≤ g; omega) _).setCell (p := ⟨g, k * 3 + 2, none⟩) (by show _ ≤ g; omega) _).alloc (by simp; omega) _
          case rest =>
            obtain ⟨rfl, hEB2, hx2, hB2⟩ := hcut
            clear x0 x1 x2 y0 y1 y2 f0 f1 f2 HX7 HBA HST1
            obtain ⟨y0, y1, y2⟩ := hEB2.out.at_ n (by rw [List.length_set]; have := hmm.out; omega)
            have f0 := hEB2.out.frozen (n * 3)
            have f1 := hEB2.out.frozen (n * 3 + 1)
            have f2 := hEB2.out.frozen (n * 3 + 2)
            have hst2 := hEB2.out.store n (by rw [List.length_set]; have := hmm.out; omega) x
            have HST2 := Lib.hid hst2
            obtain ⟨wd, hwd⟩ : ∃ x : World, x = wc := ⟨_, rfl⟩
            subst hwd
            have e0 : wd.cell? ⟨w8.heap.size, 0, none⟩ = some (.int .i64 x.f) := cell_of_row _ _ 0 _ _ (0, 0) hx2
            have e1 : wd.cell? ⟨w8.heap.size, 1, none⟩ = some (.int .i64 x.t) := cell_of_row _ _ 1 _ _ (0, 0) hx2
            have e2 : wd.cell? ⟨w8.heap.size, 2, none⟩ = some (.string x.s) := cell_of_row _ _ 2 _ _ (0, 0) hx2
            have hlen2 := Lib.hid (show ((m.set k y).set n x).length = l.length by rw [List.length_set, List.length_set]; exact hmm.out)
            clear hst2 hx2
            go_wp2
            go_roundw
            case rel => exact ⟨k + 1, (m.set k y).set n x, by omega, by go_num, hlen2.out, HM2.out, HST2.out, (((hB2.out.setCell (p := ⟨g, n * 3, none⟩) (by show _ ≤ g; omega) _).setCell (p := ⟨g, n * 3 + 1, none⟩) (by show _ ≤ g; omega) _).setCell (p := ⟨g, n * 3 + 2, none⟩) (by show _ ≤ g; omega) _)⟩
            case measure => simp [intOf]; omega
      · have hI : IsE wr (.slice (some ⟨g, 0, none⟩) l.length cap) m := ⟨_, cap, by rw [hm], (fun e => by cases e), by omega, hcap2, hEB.out.esl⟩
        have HI := Lib.hid hI
        have hmm := Lib.hid hm
        clear hI hm hmI hEB
        by_cases hk3 : k < l.length
        · have hk4 : ¬ (k : Int) < sd.length := by omega
          have hk5 : (k : Int) < l.length := by omega
          clear hk2
          go_wp2_with fail
          refine (HC6.out _ m _ hmm.out hmem.out HI.out).mono ?_
          rintro e w8 ⟨rfl, hb8⟩
          have HB8 := Lib.hid (chainB hb.out hb8)
          have A8 := Lib.hid (HAW.out w8 (HT.out.below HB8.out))
          clear hb8 hb
          go_wp2_with fail
          refine A8.out.mono ?_
          rintro e w9 ⟨rfl, hb9⟩
          have HB9 := Lib.hid (chainB HB8.out hb9)
          clear hb9 HB8 A8
          go_wp2
          go_ret
          exact ⟨rfl, HB9.out⟩
        · have hk5 : ¬ (k : Int) < l.length := by omega
          clear hk2
          go_wp2_with fail
          refine (HC6.out _ m _ hmm.out hmem.out HI.out).mono ?_
          rintro e w8 ⟨rfl, hb8⟩
          have HB8 := Lib.hid (chainB hb.out hb8)
          have A8 := Lib.hid (HAW.out w8 (HT.out.below HB8.out))
          clear hb8 hb
          go_wp2_with fail
          refine A8.out.mono ?_
          rintro e w9 ⟨rfl, hb9⟩
          have HB9 := Lib.hid (chainB HB8.out hb9)
          clear hb9 HB8 A8
          go_wp2
          go_ret
          exact ⟨rfl, HB9.out⟩

set_option maxHeartbeats 2000000 in
set_option maxRecDepth 100000 in
theorem textBack_any (haw : ∀ W, Tab W → Calls Tryd.prog 17 #[] W fun e w' => e = .returned (.bool true) ∧ Below W.heap.size W w')
    (s : ByteArray) (A : Option Addr) (l : List Ed) (c : Nat) (B : Option Addr) (sd : List Nat) (d : Nat) (w : World) (ht : Tab w)
    (hs : s.size ≤ 140737488355328) (hl : l.length ≤ 140737488355328) (hx : ∀ x ∈ l, x.s.size ≤ 140737488355328) (hE : IsE w (.slice A l.length c) l)
    (hd : sd.length ≤ 140737488355328) (hB : Rd w w.heap.size B (sd.map fun n : Nat => Value.int .u8 n)) (hv : ∀ n ∈ sd, n < 256) :
    Calls Tryd.prog 7 #[.string s, .slice A l.length c, .slice B sd.length d] w fun e w' => e = .returned (.bool true) ∧ Below w.heap.size w w' := by
  have hEl : ESl w w.heap.size A l := by obtain ⟨A', c', e, _, _, _, h⟩ := hE; cases e; exact h
  have HV := heavy_any A c s l w hs hl hx hEl
  by_cases hq : heavyF s l = true
  · rw [hq] at HV
    have HV' := Lib.hid HV
    clear HV hq hE hEl hB hv ht haw hx
    go_enter Tryd.func7, Tryd.ntmps7
    go_wp2_with fail
    refine HV'.out.mono ?_
    rintro e w1 ⟨rfl, hb1⟩
    go_wp2
    go_ret
    exact ⟨rfl, hb1⟩
  · have hq' : heavyF s l = false := by simpa using hq
    obtain ⟨n1, n2, n3⟩ := heavyF_no hq'
    by_cases h60 : 60 < l.length
    · rw [hq'] at HV
      have HV' := Lib.hid HV
      have h60' : (60 : Int) < l.length := by omega
      clear HV hq hq' hE hEl hB hv ht haw hx n1 n2 n3
      go_enter Tryd.func7, Tryd.ntmps7
      go_wp2_with fail
      refine HV'.out.mono ?_
      rintro e w1 ⟨rfl, hb1⟩
      go_wp2
      go_ret
      exact ⟨rfl, hb1⟩
    · by_cases h0 : applF s.size l = 0
      · exact textBack_main haw s A l c B sd d w ht n1 (by omega) n2 hq' hE hd hB hv h0
      · have hT : SmallT l := fun x hx' => by have := n2 x hx'; omega
        have C1 := fun W => apply_no s (.slice A l.length c) l W (by omega) (by omega) hT h0
        generalize applF s.size l = E at *
        rw [hq'] at HV
        have HV' := Lib.hid HV
        have HC1 := Lib.hid C1
        have HE := Lib.hid hE
        have HT := Lib.hid ht
        have HAW := Lib.hid haw
        have hne : (E != 0) = true := by simp [h0]
        have h60' : ¬ (60 : Int) < l.length := by omega
        clear HV C1 hT hq hq' hE hEl hB hv ht haw hx n1 n2 n3 h0 h60
        go_enter Tryd.func7, Tryd.ntmps7
        go_wp2_with fail
        refine HV'.out.mono ?_
        rintro e w1 ⟨rfl, hb1⟩
        have HB1 := Lib.hid hb1
        clear hb1 HV'
        go_wp2_with fail
        refine (HC1.out _ (IsE.below HE.out HB1.out)).mono ?_
        rintro e w2 ⟨rfl, hb2⟩
        have HB2 := Lib.hid (chainB HB1.out hb2)
        have A2 := Lib.hid (HAW.out w2 (HT.out.below HB2.out))
        clear hb2 HB1 HC1
        go_wp2_with fail
        refine A2.out.mono ?_
        rintro e w3 ⟨rfl, hb3⟩
        have HB3 := Lib.hid (chainB HB2.out hb3)
        clear hb3 A2 HB2
        go_wp2
        go_ret
        exact ⟨rfl, HB3.out⟩

end Go.Proofs.YtgpmodbndngcoaaDoor
