/- joined: edits that have no bytes and stand at one place, made one. -/
import Derived.Test.YtgpmodbndngcoaaDoorEd
import Derived.Test.YtgpmodbndngcoaaDoorBuilder
import Derived.RegionTactic
import Derived.Deep.AppendLies
namespace Go.Proofs.YtgpmodbndngcoaaDoor
open Go.RowKit Go.Maps

theorem take_tw (p : Ed → Bool) (r : List Ed) : r.take (r.takeWhile p).length = r.takeWhile p := by
  have h := List.takeWhile_append_dropWhile (p := p) (l := r)
  have h2 : (r.takeWhile p ++ r.dropWhile p).take (r.takeWhile p).length = r.takeWhile p := List.take_left
  rwa [h] at h2
theorem drop_tw (p : Ed → Bool) (r : List Ed) : r.drop (r.takeWhile p).length = r.dropWhile p := by
  have h := List.takeWhile_append_dropWhile (p := p) (l := r)
  have h2 : (r.takeWhile p ++ r.dropWhile p).drop (r.takeWhile p).length = r.dropWhile p := List.drop_left
  rwa [h] at h2

theorem own_below {w w' : World} {base k n : Nat} {e : TypeId} {v : Value} {xs : List Value} (h : w.ownsRow base e k v n xs) (hb : Below w.heap.size w w') : w'.ownsRow base e k v n xs :=
  h.kept (row := none) ⟨hb.os, hb.tape, hb.output, hb.size, fun j hj _ => hb.block j hj⟩ (by cases hv : Value.ownBlock v <;> simp)

theorem textsL_take (l : List Ed) (k : Nat) (h : k < l.length) : textsL (l.take (k + 1)) = textsL (l.take k) ++ l[k].s.data.toList := by
  rw [List.take_succ_eq_append_getElem h, textsL_append, textsL_cons]; simp [textsL]

theorem textsL_take_le (l : List Ed) (k : Nat) : (textsL (l.take k)).length ≤ (textsL l).length := by
  have : textsL l = textsL (l.take k) ++ textsL (l.drop k) := by rw [← textsL_append, List.take_append_drop]
  rw [this, List.length_append]; omega

theorem textsL_drop_le (l : List Ed) (k : Nat) : (textsL (l.drop k)).length ≤ (textsL l).length := by
  have : textsL l = textsL (l.take k) ++ textsL (l.drop k) := by rw [← textsL_append, List.take_append_drop]
  rw [this, List.length_append]; omega

set_option maxHeartbeats 1000000 in
set_option maxRecDepth 100000 in
theorem joinTexts_any (A : Option Addr) (c : Nat) (l : List Ed) (w : World) (hl : l.length ≤ 1000000) (hT : (textsL l).length ≤ 140737488355328) (h : ESl w w.heap.size A l) :
    Calls Tryd.prog 94 #[.slice A l.length c] w fun e w' => e = .returned (.string ⟨(textsL l).toArray⟩) ∧ Below w.heap.size w w' := by
  have HH := Lib.hid h
  have hTT := fun k => textsL_take_le l k
  have HTT := Lib.hid hTT
  clear h hTT
  go_enter Tryd.func94, Tryd.ntmps94
  go_wp2
  have hB0 := Bld.new w
  go_loopw [8] (fun i wr => ∃ k : Nat, k ≤ l.length ∧ i = .int .i64 k ∧ Bld wr w.heap.size w.heap.size (textsL (l.take k)) ∧ Below w.heap.size w wr) (fun i _ => l.length - (intOf i).toNat)
  case atStart => exact ⟨0, Nat.zero_le _, rfl, hB0, (Below.refl _ _).alloc (Nat.le_refl _) _⟩
  case round =>
    clear hB0
    obtain ⟨k, hk, rfl, hbl, hb⟩ := hrel
    have hk1 := HTT.out k
    have hk2 := HTT.out (k + 1)
    have hL := hbl.lt
    by_cases hlt : k < l.length
    · obtain ⟨b, off, rfl, hB, c0, c1, c2⟩ := (HH.out.below hb).at_ k hlt
      have ht := textsL_take l k hlt
      have ht2 : (textsL (l.take (k + 1))).length = (textsL (l.take k)).length + l[k].s.size := by rw [ht, List.length_append]; simp
      generalize l[k].f = f at *
      generalize l[k].t = t at *
      generalize l[k].s = x at *
      have hsum : (textsL (l.take k)).length + x.size ≤ 140737488355328 := by omega
      have HT := Lib.hid ht
      clear ht ht2 hk1 hk2
      go_wp2_with fail
      refine (writeString_any w.heap.size w.heap.size _ x _ (hbl.alloc _) hsum (by simp; omega)).mono ?_
      rintro e w2 ⟨rfl, hbl2, hk2⟩
      have HB2 := Lib.hid ((hb.alloc hb.size _).trans hk2.1)
      rw [← HT.out] at hbl2
      clear hk2 hb hbl
      go_wp2
      go_roundw
      case rel => exact ⟨k + 1, by omega, by go_num, hbl2, HB2.out⟩
      case measure => simp [intOf]; omega
    · obtain rfl : k = l.length := by omega
      rw [List.take_length] at *
      go_wp2_with fail
      refine (bstring_any w.heap.size w.heap.size _ _ hbl hb.size).mono ?_
      rintro e w3 ⟨rfl, hk3⟩
      go_wp2
      go_ret
      exact ⟨rfl, hb.trans hk3.1⟩

set_option maxHeartbeats 2000000 in
set_option maxRecDepth 100000 in
theorem joined_any (A : Option Addr) (c : Nat) (l : List Ed) (w : World) (hl : l.length ≤ 1000000) (hT : (textsL l).length ≤ 140737488355328) (h1 : l.length ≤ c) (h2 : c ≤ maxLen) (hE : ESl w w.heap.size A l) :
    Calls Tryd.prog 62 #[.slice A l.length c] w fun e w' => ∃ v', e = .returned v' ∧ w'.ownsRow w.heap.size 46 3 v' (joinF l).length (cellsE (joinF l)) ∧ Below w.heap.size w w' := by
  obtain ⟨i0, hi, hz0, hz1, hz2⟩ := info_parts infoEd
  unfold maxLen at h2
  have HE := Lib.hid hE
  have hjl := joinF_length _ l (Nat.le_refl _)
  clear hE
  go_enter Tryd.func62, Tryd.ntmps62
  go_wp2
  go_loopw [0, 3] (fun va vl wr => ∃ (r acc : List Ed) (A' : Option Addr) (c' : Nat), va = .slice A' r.length c' ∧ r.length ≤ c' ∧ c' ≤ c ∧ r.length + acc.length ≤ l.length ∧ Hid ((textsL r).length ≤ 140737488355328) ∧ Hid (ESl w w.heap.size A' r) ∧ Hid (acc ++ joinF r = joinF l) ∧ Hid (wr.ownsRow w.heap.size 46 3 vl acc.length (cellsE acc)) ∧ Below w.heap.size w wr) (fun va _ _ => match va with | .slice _ n _ => n | _ => 0)
  case atStart => exact ⟨l, [], A, c, rfl, h1, Nat.le_refl _, by simp, hT, HE.out, rfl, World.ownsRow_nil _ _ _ _, Below.refl _ _⟩
  case round =>
    obtain ⟨r, acc, A', c', rfl, k1, k2, k3, hTr, hEr, hJ, hO, hb⟩ := hrel
    cases r with
    | nil =>
      have hJ1 := hJ.out
      rw [joinF_nil, List.append_nil] at hJ1
      have hI := hO.out
      rw [hJ1] at hI
      have HI := Lib.hid hI
      clear hJ hJ1 hO hI hEr hTr HE
      simp only [List.length_nil] at *
      go_wp2
      go_ret
      exact ⟨_, rfl, HI.out, hb⟩
    | cons x r =>
      obtain ⟨b, off, rfl, hB, c0, c1, c2⟩ := (hEr.out.below hb).at_ 0 (by simp)
      simp only [Nat.zero_mul, Nat.add_zero, List.getElem_cons_zero, List.length_cons] at c0 c1 c2 k1 k3
      have hJ1 := hJ.out
      rw [joinF_cons] at hJ1
      have hsp := samePoint_any b off c' x r wr (by omega) (hEr.out.below hb |>.more hb.size)
      have hp : (r.takeWhile (sameP x)).length ≤ r.length := (List.takeWhile_sublist _).length_le
      have htake := take_tw (sameP x) r
      have hdrop := drop_tw (sameP x) r
      rw [← htake, ← hdrop] at hJ1
      generalize (r.takeWhile (sameP x)).length = p at *
      have HJ := Lib.hid hJ1
      have HSP := Lib.hid hsp
      have hdl : (r.drop p).length = r.length - p := List.length_drop
      have hTr1 := hTr.out
      have hT1 := textsL_take_le (x :: r) (1 + p)
      have hT2 := textsL_drop_le (x :: r) (1 + p)
      rw [show 1 + p = p + 1 by omega, List.drop_succ_cons] at hT2
      have HT1 := Lib.hid (show (textsL ((x :: r).take (1 + p))).length ≤ 140737488355328 by omega)
      have HT2 := Lib.hid (show (textsL (r.drop p)).length ≤ 140737488355328 by omega)
      have HDL := Lib.hid hdl
      have hdropE := (hEr.out.drop (p + 1))
      rw [List.drop_succ_cons] at hdropE
      have HDE := Lib.hid hdropE
      have htakeE := fun (W : World) (hb' : Below w.heap.size w W) => (((hEr.out.below hb').more hb'.size).take (1 + p))
      have HTE := Lib.hid htakeE
      have hc0 := Lib.hid c0
      clear hJ hJ1 hsp htake hdrop hTr hTr1 hT1 hT2 hdl hEr htakeE hdropE HE
      by_cases hp0 : p = 0
      · subst hp0
        go_wp2_with fail
        refine HSP.out.mono ?_
        rintro e w2 ⟨rfl, hb2⟩
        have hO2 := own_below hO.out hb2
        have HO2 := Lib.hid hO2
        have hbw := hb.trans (hb2.mono hb.size)
        have hsz2 := hbw.size
        have HBW := Lib.hid hbw
        have d0 : w2.cell? ⟨b, off, none⟩ = some (.int .i64 x.f) := (hb2.cell (p := ⟨b, off, none⟩) (by have := hb.size; show b < wr.heap.size; omega)).trans c0
        have d1 : w2.cell? ⟨b, off + 1, none⟩ = some (.int .i64 x.t) := (hb2.cell (p := ⟨b, off + 1, none⟩) (by have := hb.size; show b < wr.heap.size; omega)).trans c1
        have d2 : w2.cell? ⟨b, off + 2, none⟩ = some (.string x.s) := (hb2.cell (p := ⟨b, off + 2, none⟩) (by have := hb.size; show b < wr.heap.size; omega)).trans c2
        have hnw : ∀ j u, (#[Value.int .i64 x.f, .int .i64 x.t, .string x.s] : Array Value).toList[j]? = some u → ((w2.alloc (.cells #[.int .i64 x.f, .int .i64 x.t, .string x.s] 46)).alloc (.cells #[.int .i64 x.f, .int .i64 x.t, .string x.s] 46)).cell? ((⟨w2.heap.size + 1, 0, none⟩ : Addr).add j) = some u :=
          World.news_of_block (t := 46) (fr := (0, 0)) (by have := heap_alloc_new (w2.alloc (.cells #[.int .i64 x.f, .int .i64 x.t, .string x.s] 46)) (.cells #[.int .i64 x.f, .int .i64 x.t, .string x.s] 46); simpa using this)
        have HNW := Lib.hid hnw
        clear hO hO2 hbw hnw hb2 c0 c1 c2 hb
        go_wp2_with (at_builtin; refine wpList_append_own _ rfl (.tmp 21) (.tmp 23) 30 rfl w.heap.size 46 i0 _ 3 32 Tryd.underlying30 hi hz0 hz1 hz2 rfl (by decide) _ acc.length (cellsE acc) rfl ((HO2.out.alloc _).alloc _) ⟨w2.heap.size + 1, 0, none⟩ 1 1 [.int .i64 x.f, .int .i64 x.t, .string x.s] rfl rfl HNW.out (by simp [Value.oneCell']) (by unfold maxLen; omega) (by omega) (by simp; omega) ?_; intro v' w3 hown' hgr _)
        have HOW := Lib.hid hown'
        have HBN := Lib.hid (((HBW.out.alloc hsz2 _).alloc (by simp; omega) _).grown hgr (by simp; omega) (fun k e => (HO2.out.lt k e).1))
        clear hown' hgr HO2 HBW
        go_wp2
        go_roundw
        case rel =>
          refine ⟨r, acc ++ [⟨x.f, x.t, x.s⟩], if c' = 1 then some ⟨b, off, none⟩ else some ⟨b, off + 3, none⟩, c' - 1, rfl, by omega, by omega, by simp only [List.length_append, List.length_cons, List.length_nil]; omega, HT2.out, ?_, ?_, ?_, HBN.out⟩
          · refine ESl.any fun hne => ?_
            have : r.length ≠ 0 := fun e => hne (List.eq_nil_of_length_eq_zero e)
            rw [if_neg (by omega)]
            exact HDE.out
          · have := HJ.out
            unfold Hid
            rw [← this, List.take_zero, List.drop_zero, textsL_cons, List.append_assoc]
            simp [textsL]
          · have e : cellsE (acc ++ [⟨x.f, x.t, x.s⟩]) = cellsE acc ++ [.int .i64 x.f, .int .i64 x.t, .string x.s] := by rw [cellsE_append]; rfl
            unfold Hid
            rw [e, List.length_append]
            exact HOW.out
        case measure => simp
      · have hp1 : (1 : Int) < ((1 + p : Nat) : Int) := by omega
        have hp2 : (0 : Int) ≤ ((1 + p : Nat) : Int) := by omega
        have hp3 : ((1 + p : Nat) : Int) ≤ (r.length : Int) + 1 := by omega
        go_wp2_with fail
        refine HSP.out.mono ?_
        rintro e w2 ⟨rfl, hb2⟩
        have hO2 := own_below hO.out hb2
        have HO2 := Lib.hid hO2
        have hbw := hb.trans (hb2.mono hb.size)
        have hsz2 := hbw.size
        have HBW := Lib.hid hbw
        have d0 : w2.cell? ⟨b, off, none⟩ = some (.int .i64 x.f) := (hb2.cell (p := ⟨b, off, none⟩) (by have := hb.size; show b < wr.heap.size; omega)).trans c0
        have d1 : w2.cell? ⟨b, off + 1, none⟩ = some (.int .i64 x.t) := (hb2.cell (p := ⟨b, off + 1, none⟩) (by have := hb.size; show b < wr.heap.size; omega)).trans c1
        have d2 : w2.cell? ⟨b, off + 2, none⟩ = some (.string x.s) := (hb2.cell (p := ⟨b, off + 2, none⟩) (by have := hb.size; show b < wr.heap.size; omega)).trans c2
        clear hO hO2 hbw hb2 c0 c1 c2 hb
        have hlt1 : ((x :: r).take (1 + p)).length = 1 + p := by rw [List.length_take, List.length_cons]; omega
        have hjt := joinTexts_any (some ⟨b, off, none⟩) c' ((x :: r).take (1 + p)) (w2.alloc (.cells #[.int .i64 x.f, .int .i64 x.t, .string x.s] 46)) (by omega) HT1.out (HTE.out _ (HBW.out.alloc hsz2 _))
        rw [hlt1] at hjt
        have hxb := heap_alloc_new w2 (.cells #[.int .i64 x.f, .int .i64 x.t, .string x.s] 46)
        have HJT := Lib.hid hjt
        have HXB := Lib.hid hxb
        generalize hst : (ByteArray.mk (textsL ((x :: r).take (1 + p))).toArray) = st at *
        have HST := Lib.hid hst
        clear hlt1 hjt hxb hst
        go_wp2_with fail
        refine HJT.out.mono ?_
        rintro e w4 ⟨rfl, hb4⟩
        have hz4 := hb4.size
        rw [show (w2.alloc (.cells #[.int .i64 x.f, .int .i64 x.t, .string x.s] 46)).heap.size = w2.heap.size + 1 by simp] at hz4
        have hx4 := (hb4.block w2.heap.size (by simp)).trans HXB.out
        have e0 : w4.cell? ⟨w2.heap.size, 0, none⟩ = some (.int .i64 x.f) := cell_of_row w4 _ 0 _ _ (0, 0) hx4
        have e1 : w4.cell? ⟨w2.heap.size, 1, none⟩ = some (.int .i64 x.t) := cell_of_row w4 _ 1 _ _ (0, 0) hx4
        have e2 : w4.cell? ⟨w2.heap.size, 2, none⟩ = some (.string x.s) := cell_of_row w4 _ 2 _ _ (0, 0) hx4
        have e3 : w4.frozen? ⟨w2.heap.size, 2, none⟩ = false := by simp [World.frozen?, hx4]
        have hb24 : Below w2.heap.size w2 w4 := ((Below.refl w2.heap.size w2).alloc (Nat.le_refl _) _).trans (hb4.mono (by simp))
        have HB24 := Lib.hid (hb24.setCell (p := ⟨w2.heap.size, 2, none⟩) (Nat.le_refl _) (.string st))
        have HO4 := Lib.hid (own_below HO2.out HB24.out)
        clear hx4 hb24 hb4 d0 d1 d2
        have hnw : ∀ j u, (#[Value.int .i64 x.f, .int .i64 x.t, .string st] : Array Value).toList[j]? = some u → ((w4.setCell ⟨w2.heap.size, 2, none⟩ (.string st)).alloc (.cells #[.int .i64 x.f, .int .i64 x.t, .string st] 46)).cell? ((⟨w4.heap.size, 0, none⟩ : Addr).add j) = some u :=
          World.news_of_block (t := 46) (fr := (0, 0)) (by have := heap_alloc_new (w4.setCell ⟨w2.heap.size, 2, none⟩ (.string st)) (.cells #[.int .i64 x.f, .int .i64 x.t, .string st] 46); simpa using this)
        have HNW := Lib.hid hnw
        have HBW4 := Lib.hid (HBW.out.trans (HB24.out.mono hsz2))
        have hsz5 := HB24.out.size
        rw [show (w4.setCell ⟨w2.heap.size, 2, none⟩ (.string st)).heap.size = w4.heap.size by simp] at hsz5
        clear hnw
        go_wp2_with (at_builtin; refine wpList_append_own _ rfl (.tmp 21) (.tmp 23) 30 rfl w.heap.size 46 i0 _ 3 32 Tryd.underlying30 hi hz0 hz1 hz2 rfl (by decide) _ acc.length (cellsE acc) rfl (HO4.out.alloc _) ⟨w4.heap.size, 0, none⟩ 1 1 [.int .i64 x.f, .int .i64 x.t, .string st] rfl rfl HNW.out (by simp [Value.oneCell']) (by unfold maxLen; omega) (by omega) (by simp; omega) ?_; intro v' w3 hown' hgr _)
        have HOW := Lib.hid hown'
        have HBN := Lib.hid ((HBW4.out.alloc (by simp; omega) _).grown hgr (by simp; omega) (fun k e => (HO4.out.lt k e).1))
        clear hown' hgr HO4 HBW4 HBW HB24 HO2
        go_wp2
        go_roundw
        case rel =>
          have hdl := HDL.out
          refine ⟨r.drop p, acc ++ [⟨x.f, x.t, st⟩], if c' = 1 + p then some ⟨b, off, none⟩ else some ⟨b, off + (1 + p) * 3, none⟩, c' - (1 + p), ?_, by omega, by omega, by simp only [List.length_append, List.length_cons, List.length_nil]; omega, HT2.out, ?_, ?_, ?_, HBN.out⟩
          · rw [hdl, show r.length + 1 - (1 + p) = r.length - p by omega]
          · refine ESl.any fun hne => ?_
            have : (r.drop p).length ≠ 0 := fun e => hne (List.eq_nil_of_length_eq_zero e)
            rw [if_neg (by omega), show (1 + p) * 3 = (p + 1) * 3 by omega]
            exact HDE.out
          · have := HJ.out
            unfold Hid
            rw [← this, List.append_assoc, ← HST.out, show 1 + p = p + 1 by omega, List.take_succ_cons]
            rfl
          · have e : cellsE (acc ++ [⟨x.f, x.t, st⟩]) = cellsE acc ++ [.int .i64 x.f, .int .i64 x.t, .string st] := by rw [cellsE_append]; rfl
            unfold Hid
            rw [e, List.length_append]
            exact HOW.out
        case measure => simp; omega

end Go.Proofs.YtgpmodbndngcoaaDoor
