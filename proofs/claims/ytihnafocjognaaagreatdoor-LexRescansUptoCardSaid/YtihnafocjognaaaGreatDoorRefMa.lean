/- The document's made: the text behind edits, and their inverse, byte by byte. The document's Apply and Inverse. -/
import Derived.Test.YtihnafocjognaaaGreatDoorInverse
import Derived.Test.YtihnafocjognaaaGreatDoorRefJo
import Derived.Lib.AppendStr
import Derived.Laws.BytesArg
import Derived.Laws.IdiomStrings
import Derived.Deep.RegionHeld3
import Derived.Test.YtihnafocjognaaaGreatDoorRefFi

namespace Go.Proofs.YtihnafocjognaaaGreatDoor
open Go.RowKit Go.Maps

theorem infoU8 : (Tryz.prog.info? 5).map (fun i => (i.zero, i.size, i.bytes)) = some (some (.int .u8 0), 1, 1) := by kernel_rfl

theorem own_slice {w : World} {base n : Nat} {e : TypeId} {k : Nat} {v : Value} {xs : List Value} (h : w.ownsRow base e k v n xs) : ∃ A c, v = .slice A n c := by
  rcases h.2 with ⟨e, e0⟩ | ⟨g, cap, cur, e, _⟩
  · exact ⟨none, 0, by rw [e, e0]⟩
  · exact ⟨_, _, e⟩

theorem own_type {w : World} {base n : Nat} {e : TypeId} {k g : Nat} {v : Value} {xs : List Value} (h : w.ownsRow base e k v n xs) (hg : v.ownBlock = some g) : ∃ cur, w.heap[g]? = some (.cells cur e (0, 0)) := by
  rcases h.2 with ⟨e1, e0⟩ | ⟨g', cap, cur, e1, _, h2, _⟩
  · subst e1; cases hg
  · subst e1
    injection hg with hg
    subst hg
    exact ⟨cur, h2⟩

/-- a row of other elements is kept -/
theorem own_apart {w w' : World} {b1 b2 n1 n2 k1 k2 : Nat} {e1 e2 : TypeId} {v1 v2 : Value} {xs1 xs2 : List Value} (h1 : w.ownsRow b1 e1 k1 v1 n1 xs1) (h2 : w.ownsRow b2 e2 k2 v2 n2 xs2) (hne : e1 ≠ e2) (hg : w.grownBy w' v2.ownBlock) : w'.ownsRow b1 e1 k1 v1 n1 xs1 := by
  refine h1.kept hg ?_
  cases h : v1.ownBlock with
  | none => exact .inl rfl
  | some g =>
    refine .inr fun e => ?_
    obtain ⟨c1, a⟩ := own_type h1 h
    obtain ⟨c2, b⟩ := own_type h2 e.symm
    rw [a] at b
    injection b with b
    injection b with _ b
    exact hne b

theorem own_base {w : World} {b1 b2 n k : Nat} {e : TypeId} {v : Value} {xs : List Value} (h : w.ownsRow b2 e k v n xs) (hb : b1 ≤ b2) : w.ownsRow b1 e k v n xs := by
  refine ⟨h.1, ?_⟩
  rcases h.2 with h | ⟨g, cap, cur, h1, h2, h3⟩
  · exact .inl h
  · exact .inr ⟨g, cap, cur, h1, by omega, h3⟩

/-- 'string(b)' of a row of bytes that is owned -/
theorem conv_own {w : World} {base : Nat} {v : Value} {l : List UInt8} (h : w.ownsRow base 5 1 v l.length (Lib.byteCells l)) : (convert 45 9 v).run Tryz.prog w = .ok (.string ⟨l.toArray⟩) w := by
  rcases h.2 with ⟨e, e0⟩ | ⟨g, cap, cur, e, hb, hg, hn, hc, hs, ht⟩
  · have : l = [] := List.eq_nil_of_length_eq_zero e0
    subst this
    subst e
    exact run_convert_bytes_nil (w := w) 45 5 Tryz.underlying45 Tryz.underlying5 0 0 9 Tryz.underlying9
  · subst e
    refine run_convert_bytes_back w 45 9 5 ⟨g, 0, none⟩ cap l Tryz.underlying45 Tryz.underlying5 Tryz.underlying9 fun j hj => ?_
    exact h.cells rfl j _ (by simp [Lib.byteCells, List.getElem?_map, List.getElem?_eq_getElem hj])

theorem strCells_bytes (s : ByteArray) : Lib.strCells s = Lib.byteCells s.data.toList := rfl

set_option maxHeartbeats 4000000 in
set_option maxRecDepth 100000 in
theorem refMade_any (s : ByteArray) (A : Option Addr) (c : Nat) (l : List Ed) (w : World) (hl : l.length ≤ 10000) (hT : SmallT l) (hf : fineF s.size l = 0) (h : ESl w w.heap.size A l) :
    Calls Tryz.prog 21 #[.string s, .slice A l.length c] w fun e w' => ∃ v', e = .returned (.tuple #[.string (behind s l), v']) ∧ w'.ownsRow w.heap.size 24 3 v' (ordF l).length (cellsE (invF s 0 (ordF l))) ∧ Below w.heap.size w w' := by
  obtain ⟨r1, r2, r3, r4⟩ := fineF_range hf
  have hch := chain_fine hf
  have hR : ∀ x ∈ ordF l, rangeOk s.size x := fun x hx => r3 x ((mem_ordF x l).1 hx)
  have hT' := hT.ord
  have hlo := length_ordF l
  have hsz := size_toL s
  have hml := madeF_length s.data.toList (ordF l) 0 (Nat.zero_le _) (by rw [hsz]; exact hch)
  have hgb := gsum_bound s.size r1 (ordF l) hT' hR
  have hmade : (madeF s.data.toList 0 (ordF l)).length ≤ 100000000000 := by rw [hsz] at hml; omega
  have hro := refOrdered_any A c l w (by omega) h
  obtain ⟨i0, hi, hz0, hz1, hz2⟩ := info_parts infoEd
  obtain ⟨iu, hiu, hzu0, hzu1, hzu2⟩ := info_parts infoU8
  unfold behind
  have hlo2 : (ordF l).length ≤ 10000 := by omega
  generalize ordF l = L at *
  have HRO := Lib.hid hro
  have HC := Lib.hid hch
  have HR := Lib.hid hR
  have HT := Lib.hid hT'
  have HM := Lib.hid hmade
  have HSZ := Lib.hid hsz
  clear hro hch hR hT hT' r3 r4 hf h hml hgb hmade hsz hlo
  go_enter Tryz.func21, Tryz.ntmps21
  go_wp2_with fail
  refine HRO.out.mono ?_
  rintro e w1 ⟨v1, rfl, ho1, hb1⟩
  obtain ⟨A1, c1, rfl, hA1, h11, h12, hE1⟩ := IsE.of_own rfl ho1
  have HE := Lib.hid hE1
  have HB1 := Lib.hid hb1
  have hb1s := hb1.size
  clear hA1 hE1 ho1 hb1 HRO
  go_wp2
  go_loopw [6, 7, 8, 9] (fun vo vb vd vi wr => ∃ (k d : Nat) (acc : List UInt8), k ≤ L.length ∧ vi = .int .i64 k ∧ vd = .int .i64 d ∧ d ≤ s.size ∧ Hid (Chain s.size d (L.drop k)) ∧ Hid (acc ++ madeF s.data.toList d (L.drop k) = madeF s.data.toList 0 L) ∧ Hid ((acc.length : Int) = d + gsum (L.take k)) ∧ Hid (wr.ownsRow w1.heap.size 5 1 vo acc.length (Lib.byteCells acc)) ∧ Hid (wr.ownsRow w1.heap.size 24 3 vb k (cellsE (invF s 0 (L.take k)))) ∧ Hid (Below w1.heap.size w1 wr)) (fun _ _ _ i _ => L.length - (intOf i).toNat)
  case atStart => exact ⟨0, 0, [], Nat.zero_le _, rfl, rfl, Nat.zero_le _, HC.out, rfl, by unfold Hid; simp [gsum], World.ownsRow_nil _ _ _ _, World.ownsRow_nil _ _ _ _, Below.refl _ _⟩
  case round =>
    obtain ⟨k, d, acc, hk, rfl, rfl, hd, hch, hm, hal, HO6, HO7, hb⟩ := hrel
    have hbs := hb.out.size
    by_cases hlt : k < L.length
    · obtain ⟨b, off, rfl, hB, c0, c1, c2⟩ := (HE.out.below hb.out).at_ k hlt
      have hmem : L[k] ∈ L := List.getElem_mem hlt
      have q2 := HT.out _ hmem
      have hch1 := hch.out
      have hm1 := hm.out
      rw [List.drop_eq_getElem_cons hlt] at hch1 hm1
      obtain ⟨h1, h2, h3, h4⟩ := hch1
      rw [madeF_cons] at hm1
      have hst := gsum_take L k hlt
      have hsn := invF_snoc s L 0 k hlt
      rw [Int.zero_add] at hsn
      have hxE := fun (W : World) (hW : Below w1.heap.size w1 W) => (HE.out.below hW).at_ k hlt
      generalize L[k].f = f at *
      generalize L[k].t = t at *
      generalize L[k].s = x at *
      obtain ⟨fn, rfl⟩ := Int.eq_ofNat_of_zero_le (show 0 ≤ f by omega)
      obtain ⟨tn, rfl⟩ := Int.eq_ofNat_of_zero_le (show 0 ≤ t by omega)
      have h1 : d ≤ fn := by omega
      have h2 : fn ≤ tn := by omega
      have h3 : tn ≤ s.size := by omega
      simp only [Int.toNat_natCast] at h4 hm1 hsn
      have hxs : (s.extract d fn).size = fn - d := by rw [ByteArray.size_extract]; omega
      have hlen := HM.out
      have e2 := congrArg List.length hm1
      simp only [List.length_append, size_toL] at e2
      have hacc : acc.length + (s.extract d fn).size + x.size ≤ 100000000000 := by
        have : ((s.data.toList.drop d).take (fn - d)).length = fn - d := by rw [List.length_take, List.length_drop, HSZ.out]; omega
        omega
      have H4 := Lib.hid h4
      have HM1 := Lib.hid hm1
      have HST := Lib.hid hst
      have HSN := Lib.hid hsn
      have HXS := Lib.hid hxs
      have HXE := Lib.hid hxE
      have hal1 := hal.out
      have hfrom : ((acc.length + (s.extract d fn).size : Nat) : Int) = fn + gsum (L.take k) := by omega
      have HFR := Lib.hid hfrom
      clear hxE hch hm h4 hm1 hst hsn hxs hlen e2 hmem hal hal1 hfrom
      go_upto_region 9 with (at_builtin; refine Lib.wpList_append_own_string _ rfl (.tmp 19) (.tmp 27) 45 9 rfl w1.heap.size 5 iu Tryz.underlying45 Tryz.underlying9 hiu hzu0 hzu1 hzu2 _ acc.length (Lib.byteCells acc) rfl HO6.out (s.extract d fn) rfl (by unfold maxLen; omega) (by omega) (by omega) ?_; intro v6 w2 ho6 hg6 _; obtain ⟨A6, c6, rfl⟩ := own_slice ho6)
      have HO7b := Lib.hid (own_apart HO7.out HO6.out (by decide) hg6)
      have HB2 := Lib.hid (hb.out.grown hg6 hbs (fun k e => (HO6.out.lt k e).1))
      have hbs2 := HB2.out.size
      obtain ⟨b', off', e', _, d0, d1, d2⟩ := HXE.out _ HB2.out
      injection e' with e'
      injection e' with e1' e2'
      subst e1' e2'
      have hmin : min fn s.size = fn := Nat.min_eq_left (by omega)
      have hxs := HXS.out
      rw [hxs, strCells_bytes, ← byteCells_append] at ho6
      simp only [hmin] at ho6 ⊢
      have hfr := HFR.out
      rw [hxs] at hfr hacc
      have hal2 : (acc ++ (s.extract d fn).data.toList).length = acc.length + (fn - d) := by rw [List.length_append, size_toL, hxs]
      generalize hn6 : acc.length + (fn - d) = n6 at *
      have HN6 := Lib.hid hn6
      have HAL2 := Lib.hid hal2
      have HFR2 := Lib.hid hfr
      have HO6b := Lib.hid ho6
      clear c0 c1 c2 ho6 hg6 HO6 HO7 hb hbs hmin hxs hfr HFR hn6 hal2
      go_upto_region 11 with (at_builtin; refine Lib.wpList_append_own_string _ rfl (.tmp 31) (.tmp 36) 45 9 rfl w1.heap.size 5 iu Tryz.underlying45 Tryz.underlying9 hiu hzu0 hzu1 hzu2 _ n6 (Lib.byteCells (acc ++ (s.extract d fn).data.toList)) rfl HO6b.out x rfl (by unfold maxLen; omega) (by omega) (by omega) ?_; intro v6 w3 ho6 hg6 _; obtain ⟨A7, c7, rfl⟩ := own_slice ho6)
      have HO7c := Lib.hid (own_apart HO7b.out HO6b.out (by decide) hg6)
      have HB3 := Lib.hid (HB2.out.grown hg6 hbs2 (fun k e => (HO6b.out.lt k e).1))
      have hbs3 := HB3.out.size
      obtain ⟨b', off', e', hBb, k0, k1, k2⟩ := HXE.out _ HB3.out
      injection e' with e'
      injection e' with e1' e2'
      subst e1' e2'
      rw [strCells_bytes, ← byteCells_append] at ho6
      have HO6c := Lib.hid ho6
      clear d0 d1 d2 ho6 hg6 HO6b HO7b HB2 hbs2
      have hnb : (w3.alloc (.cells #[.int .i64 (n6 : Int), .int .i64 ((n6 : Int) + x.size), .string (s.extract fn tn)] 24)).heap[w3.heap.size]? = some (.cells #[.int .i64 (n6 : Int), .int .i64 ((n6 : Int) + x.size), .string (s.extract fn tn)] 24) := heap_alloc_new w3 _
      have HNB := Lib.hid hnb
      clear hnb
      have p1 : (0 : Int) ≤ (fn : Int) := by omega
      have p2 : (fn : Int) ≤ (tn : Int) := by omega
      have p3 : (tn : Int) ≤ (s.size : Int) := by omega
      have p4 : (0 : Int) ≤ (k : Int) := by omega
      have p5 : (k : Int) < (L.length : Int) := by omega
      have hlb : b < w3.heap.size := by omega
      have hne : ∀ g, Value.ownBlock u7 = some g → w1.heap.size ≤ g := fun g e => (HO7c.out.lt g e).1
      have HNE := Lib.hid hne
      clear hne
      go_region_held3 (fun w' => w'.cell? ⟨b, off + k * 3, none⟩ = some (.int .i64 (fn : Int)) ∧ w'.cell? ⟨b, off + k * 3 + 1, none⟩ = some (.int .i64 (tn : Int)))
        (first
          | go_keep
          | (go_split_ands
             refine ⟨?_, ?_⟩
             · (rw [hgrow.cell_far _ (by simp; omega) (fun e => absurd (HNE.out _ e.symm) (by simp only; omega))]; assumption)
             · (rw [hgrow.cell_far _ (by simp; omega) (fun e => absurd (HNE.out _ e.symm) (by simp only; omega))]; assumption)))
        ((refine step_append_lies _ (by rfl) _ _ _ (by rfl) w1.heap.size 24 i0 _ 3 32 Tryz.underlying38 hi hz0 hz1 hz2 rfl (by omega) u7 k (cellsE (invF s 0 (L.take k))) (by rfl) ((HO7c.out.alloc _).drew)
            ⟨w3.heap.size, 0, none⟩ 1 1 [.int .i64 (n6 : Int), .int .i64 ((n6 : Int) + x.size), .string (s.extract fn tn)] (by rfl) (by rfl) (World.news_of_block (fr := (0, 0)) HNB.out) (by simp [Value.oneCell'])
            (by omega) (by unfold maxLen; omega) (by omega) (by simp; omega) (w3.heap.size + 1) (by simp) ?_; intro gg cap w4 hown4 hgrow hat hlt4))
      have HO6d := Lib.hid (own_apart ((HO6c.out.alloc _).drew) ((HO7c.out.alloc _).drew) (by decide) hgrow)
      have HO7d := Lib.hid hown4
      have HB4 := Lib.hid ((HB3.out.alloc hbs3 _).drew.grown hgrow (by simp; omega) (fun k e => (HO7c.out.lt k e).1))
      clear hown4 hgrow hat HO6c HO7c HB3 hbs3 HNB HNE k0 k1 k2
      go_wp2
      go_roundw
      case rel =>
        have hla : (acc ++ (s.extract d fn).data.toList ++ x.data.toList).length = n6 + x.size := by rw [List.length_append, HAL2.out, size_toL]
        refine ⟨k + 1, tn, acc ++ (s.extract d fn).data.toList ++ x.data.toList, by omega, by go_num, rfl, h3, H4.out, ?_, ?_, ?_, ?_, HB4.out⟩
        · unfold Hid
          rw [← HM1.out, extract_toList]
          simp only [List.append_assoc]
        · unfold Hid
          have := HST.out
          have := HFR2.out
          rw [hla]
          omega
        · unfold Hid
          rw [hla]
          exact HO6d.out
        · have e : cellsE (invF s 0 (L.take (k + 1))) = cellsE (invF s 0 (L.take k)) ++ [.int .i64 (n6 : Int), .int .i64 ((n6 : Int) + x.size), .string (s.extract fn tn)] := by
            rw [HSN.out, cellsE_append, HFR2.out]; rfl
          unfold Hid
          rw [e]
          exact HO7d.out
      case measure => simp [intOf]; omega
    · obtain rfl : k = L.length := by omega
      have hm1 := hm.out
      rw [List.drop_eq_nil_of_le (by omega)] at hm1
      rw [List.take_length] at *
      have hxs : (s.extract d s.size).size = s.size - d := by rw [ByteArray.size_extract]; omega
      have hlen := HM.out
      have hm2 : acc ++ (s.extract d s.size).data.toList = madeF s.data.toList 0 L := by
        rw [← hm1, extract_toList, List.take_of_length_le (by simp)]; rfl
      have e2 := congrArg List.length hm2
      rw [List.length_append, size_toL] at e2
      have HM2 := Lib.hid hm2
      have HE2 := Lib.hid e2
      have HB5 := Lib.hid (HB1.out.trans (hb.out.mono hb1s))
      have hbs5 := HB5.out.size
      have hbx := hb.out
      have hacc2 : acc.length + (s.extract d s.size).size ≤ 100000000000 := by omega
      clear hm hm1 hm2 hch hal e2 hlen hxs
      go_wp2_with (at_builtin; refine Lib.wpList_append_own_string _ rfl (.tmp 62) (.tmp 65) 45 9 rfl w1.heap.size 5 iu Tryz.underlying45 Tryz.underlying9 hiu hzu0 hzu1 hzu2 _ acc.length (Lib.byteCells acc) rfl HO6.out (s.extract d s.size) rfl (by unfold maxLen; omega) (by omega) (by omega) ?_; intro v6 w2 ho6 hg6 _; have hcv := conv_own (l := madeF s.data.toList 0 L) (by have h := ho6; rw [strCells_bytes, ← byteCells_append, HM2.out, HE2.out] at h; exact h))
      have HO7d := Lib.hid (own_base (own_apart HO7.out HO6.out (by decide) hg6) hb1s)
      have HB6 := Lib.hid (HB1.out.trans ((hbx.grown hg6 hbs (fun k e => (HO6.out.lt k e).1)).mono hb1s))
      go_ret2
      exact ⟨_, rfl, HO7d.out, HB6.out⟩

end Go.Proofs.YtihnafocjognaaaGreatDoor

namespace Go.Proofs.YtihnafocjognaaaGreatDoor
open Go.RowKit Go.Maps

theorem behind_length {s : ByteArray} {l : List Ed} (h : fineF s.size l = 0) : ((behind s l).size : Int) = s.size + gsum (ordF l) := by
  have h3 := madeF_length s.data.toList (ordF l) 0 (Nat.zero_le _) (by rw [size_toL]; exact chain_fine h)
  have h4 := size_toL (behind s l)
  rw [behind_toL] at h4
  rw [size_toL] at h3
  omega

set_option maxHeartbeats 2000000 in
set_option maxRecDepth 100000 in
theorem refApply_any (s : ByteArray) (v : Value) (l : List Ed) (w : World) (hs : s.size ≤ 140737488355328) (hl : l.length ≤ 10000) (hT : SmallT l) (h : IsE w v l) :
    Calls Tryz.prog 13 #[.string s, v] w fun e w' => e = .returned (.tuple #[.string (if applF s.size l = 0 then behind s l else ⟨#[]⟩), .int .i64 (applF s.size l)]) ∧ Below w.heap.size w w' := by
  have hf := refFine_any s v l w hs (by omega) h
  by_cases h0 : fineF s.size l = 0
  · have hbl := behind_length h0
    have hap : applF s.size l = if 200000 < (behind s l).size then 2 else 0 := by
      unfold applF
      rw [if_neg (fun g => g h0)]
      by_cases g : 200000 < (s.size : Int) + gsum (ordF l)
      · rw [if_pos g, if_pos (by omega)]
      · rw [if_neg g, if_neg (by omega)]
    obtain ⟨A, c, rfl, hA, h1, h2, hE⟩ := h
    have hmd := fun W (hb : Below w.heap.size w W) => refMade_any s A c l W hl hT h0 ((hE.below hb).more hb.size)
    rw [h0] at hf
    rw [hap]
    have hgb : (behind s l).size ≤ 100000000000 := by
      obtain ⟨r1, r2, r3, r4⟩ := fineF_range h0
      have := gsum_bound s.size r1 (ordF l) hT.ord (fun x hx => r3 x ((mem_ordF x l).1 hx))
      have := length_ordF l
      omega
    generalize behind s l = t at *
    have HF := Lib.hid hf
    have HMD := Lib.hid hmd
    clear hf hmd hE hA hap hbl h0 hT
    by_cases g : 200000 < t.size
    · have g' : (200000 : Int) < t.size := by omega
      rw [if_pos g, if_neg (by decide)]
      clear g
      go_enter Tryz.func13, Tryz.ntmps13
      go_wp2_with fail
      refine HF.out.mono ?_
      rintro e w1 ⟨rfl, hb1⟩
      have HM := Lib.hid (HMD.out _ hb1)
      have HB1 := Lib.hid hb1
      clear hb1
      go_wp2_with fail
      refine HM.out.mono ?_
      rintro e w2 ⟨v', rfl, _, hb2⟩
      have HB2 := Lib.hid (HB1.out.trans (hb2.mono HB1.out.size))
      clear hb2
      go_wp2
      go_ret2
      exact ⟨rfl, HB2.out⟩
    · have g' : ¬ (200000 : Int) < t.size := by omega
      rw [if_neg g, if_pos rfl]
      clear g
      go_enter Tryz.func13, Tryz.ntmps13
      go_wp2_with fail
      refine HF.out.mono ?_
      rintro e w1 ⟨rfl, hb1⟩
      have HM := Lib.hid (HMD.out _ hb1)
      have HB1 := Lib.hid hb1
      clear hb1
      go_wp2_with fail
      refine HM.out.mono ?_
      rintro e w2 ⟨v', rfl, _, hb2⟩
      have HB2 := Lib.hid (HB1.out.trans (hb2.mono HB1.out.size))
      clear hb2
      go_wp2
      go_ret2
      exact ⟨rfl, HB2.out⟩
  · have hap : applF s.size l = fineF s.size l := by unfold applF; rw [if_pos h0]
    rw [hap, if_neg h0]
    generalize fineF s.size l = E at *
    have HF := Lib.hid hf
    have hne : (E != 0) = true := by simp [h0]
    clear hf hap h hT h0
    go_enter Tryz.func13, Tryz.ntmps13
    go_wp2_with fail
    refine HF.out.mono ?_
    rintro e w1 ⟨rfl, hb1⟩
    go_wp2
    go_ret2
    exact ⟨rfl, hb1⟩

end Go.Proofs.YtihnafocjognaaaGreatDoor
