/- Lex, in the document: Text and Strip over any tokens. -/
import Derived.Test.YtihnafocjognaaaDoorTzD
namespace Go.Proofs.YtihnafocjognaaaDoor
open Go.RowKit Go.Maps Go.Shelf

set_option maxHeartbeats 4000000 in
set_option maxRecDepth 100000 in
theorem refStripZ_any (A : Option Addr) (c : Nat) (l : List Tz) (w : World) (hl : l.length ≤ 60000) (h : ZRd w w.heap.size A l) :
    Calls Tryd.prog 18 #[.slice A l.length c] w fun e w' => ∃ v, e = .returned v ∧ w'.ownsRow w.heap.size 9 1 v (stripZ l).length (stripZV l) ∧ Below w.heap.size w w' := by
  obtain ⟨i0, hi, hz0, hz1, hz2⟩ := info_parts infoStrL
  have HR := Lib.hid h
  have HLL := Lib.hid hl
  clear h hl
  go_enter Tryd.func18, Tryd.ntmps18
  go_wp2_with fail
  go_loopw [3, 4] (fun v vi wr => ∃ (k n : Nat) (acc : List ByteArray), k ≤ l.length ∧ vi = .int .i64 k ∧ n ≤ k ∧ Hid (acc = (keepZ (l.take k)).map Tz.x ∧ acc.length = n) ∧ Hid (wr.ownsRow w.heap.size 9 1 v n (acc.map Value.string)) ∧ Below w.heap.size w wr ∧ Hid (∃ A c, v = .slice A n c)) (fun _ vi _ => l.length - (intOf vi).toNat)
  case atStart => exact ⟨0, 0, [], Nat.zero_le _, rfl, Nat.le_refl _, ⟨rfl, rfl⟩, World.ownsRow_nil _ _ _ _, Below.refl _ _, ⟨none, 0, rfl⟩⟩
  case round =>
    obtain ⟨k, n, acc, hk, rfl, hn, hacc, hO, hb, hform⟩ := hrel
    obtain ⟨A1, c1, rfl⟩ := hform.out
    clear hform
    by_cases hlt : k < l.length
    · obtain ⟨b, off, rfl, hB, d0, d1, d2, d3⟩ := (HR.out.below hb).at_ k hlt
      have hst := keepZ_take l k hlt
      have hkk : (l[k].k = 7 ∧ keepKz l[k] = false) ∨ (l[k].k = 0 ∧ keepKz l[k] = false) ∨ (¬ l[k].k = 7 ∧ ¬ l[k].k = 0 ∧ keepKz l[k] = true) := by
        unfold keepKz
        by_cases q1 : l[k].k = 7
        · exact .inl ⟨q1, by simp [q1]⟩
        · by_cases q2 : l[k].k = 0
          · exact .inr (.inl ⟨q2, by simp [q2]⟩)
          · exact .inr (.inr ⟨q1, q2, by simp [q1, q2]⟩)
      have hltI : (k : Int) < l.length := by omega
      have hkl := HLL.out
      have hkM : (k : Int) < 60000 := by omega
      generalize l[k] = t at *
      obtain ⟨tk, tb, tx, ta⟩ := t
      simp only at d0 d1 d2 d3 hkk
      have HACC := Lib.hid hacc.out
      have HST := Lib.hid hst
      have HO := Lib.hid hO.out
      have hsz := hb.size
      have HN := Lib.hid hn
      have HKL := Lib.hid hkl
      clear hst hacc hO hn hkl
      rcases hkk with ⟨rfl, g⟩ | ⟨rfl, g⟩ | ⟨g1, g2, g⟩
      · have HG := Lib.hid g
        clear g
        go_wp2
        go_roundw
        case rel =>
          refine ⟨k + 1, n, acc, by omega, by go_num, by have := HN.out; omega, ?_, ?_, hb, ⟨A1, c1, rfl⟩⟩
          · have h := HST.out
            rw [if_neg (by rw [HG.out]; decide)] at h
            unfold Hid
            rw [h]
            exact HACC.out
          · exact HO.out
        case measure => simp [intOf]; omega
      · have HG := Lib.hid g
        clear g
        go_wp2
        go_roundw
        case rel =>
          refine ⟨k + 1, n, acc, by omega, by go_num, by have := HN.out; omega, ?_, ?_, hb, ⟨A1, c1, rfl⟩⟩
          · have h := HST.out
            rw [if_neg (by rw [HG.out]; decide)] at h
            unfold Hid
            rw [h]
            exact HACC.out
          · exact HO.out
        case measure => simp [intOf]; omega
      · have i3 : (tk == 7) = false := by simpa using g1
        have i4 : (tk == 0) = false := by simpa using g2
        have i5 : (tk != 7) = true := by simpa using g1
        have i6 : (tk != 0) = true := by simpa using g2
        have hnw : ∀ j u, (#[.string tx] : Array Value).toList[j]? = some u → (wr.alloc (.cells #[.string tx] 9)).cell? ((⟨wr.heap.size, 0, none⟩ : Addr).add j) = some u := Blk.news (Blk.new wr 9 #[.string tx])
        have HNW := Lib.hid hnw
        have hwk : IntKind.i64.wrap ((k : Int) + 1) = (k : Int) + 1 := IntWalk.i64_in _ (by omega)
        have HM1 : Hid (n + 1 ≤ maxLen) := by unfold Hid maxLen; have := HN.out; omega
        have HM2 : Hid ((n + 1) * 16 ≤ 140737488355328) := by unfold Hid; have := HN.out; omega
        have HM3 : Hid (w.heap.size ≤ (wr.alloc (.cells #[.string tx] 9)).heap.size) := by unfold Hid; simp; omega
        have HG := Lib.hid g
        clear g hnw hkM
        go_wp2_with (at_builtin; go_loud (refine wpList_append_own _ rfl _ _ 34 rfl w.heap.size 9 i0 (.string ⟨#[]⟩) 1 16 Tryd.underlying34 hi hz0 hz1 hz2 rfl (by decide) _ n (acc.map Value.string) rfl (HO.out.alloc _) ⟨wr.heap.size, 0, none⟩ 1 1 [.string tx] rfl rfl HNW.out (by simp [Value.oneCell']) HM1.out HM2.out HM3.out ?_); intro v' w1 hown' hgr _; have HOW := Lib.hid hown'; have HGR := Lib.hid hgr; clear hown' hgr)
        go_wp2
        go_roundw
        case rel =>
          obtain ⟨A2, c2, e2⟩ := own_len HOW.out
          have HBN := Lib.hid ((hb.alloc hb.size _).grown HGR.out (by have := hb.size; simp; omega) (fun k e => (HO.out.lt k e).1))
          refine ⟨k + 1, n + 1, acc ++ [tx], by omega, by go_num, by have := HN.out; omega, ?_, ?_, HBN.out, ⟨A2, c2, e2⟩⟩
          · have h := HST.out
            rw [if_pos HG.out] at h
            unfold Hid
            rw [h, List.map_append, ← HACC.out.1, List.length_append, HACC.out.2]
            exact ⟨rfl, rfl⟩
          · unfold Hid
            rw [List.map_append]
            exact HOW.out
        case measure => simp [intOf]; omega
    · obtain rfl : k = l.length := by omega
      have hnk : ¬ (l.length : Int) < l.length := by omega
      rw [List.take_length] at hacc
      obtain ⟨h1, h2⟩ := hacc.out
      have hO2 := hO.out
      rw [h1] at hO2
      have hO2 : wr.ownsRow w.heap.size 9 1 (.slice A1 n c1) n (stripZV l) := hO2
      have h3 : n = (stripZ l).length := by rw [← h2, h1]; rfl
      have HO2 := Lib.hid hO2
      have HN3 := Lib.hid h3
      clear hO2 h1 h2 h3 hO hacc hn
      go_wp2
      go_ret
      exact ⟨_, rfl, by rw [← HN3.out]; exact HO2.out, hb⟩

set_option maxHeartbeats 4000000 in
set_option maxRecDepth 100000 in
theorem refTextZ_any (A : Option Addr) (c : Nat) (l : List Tz) (w : World) (hl : l.length ≤ 40100) (hs : sumZ l ≤ 200100) (h : ZRd w w.heap.size A l) :
    Calls Tryd.prog 15 #[.slice A l.length c] w fun e w' => e = .returned (.string ⟨(textZ l).toArray⟩) ∧ Below w.heap.size w w' := by
  obtain ⟨iu, hiu, hu0, hu1, hu2⟩ := info_parts infoU8L
  have HR := Lib.hid h
  have hlI : (l.length : Int) ≤ 40100 := by omega
  have hln : ∀ k, (textZ (l.take k)).length ≤ 200100 := fun k => by rw [textZ_len]; exact Nat.le_trans (begZ_le l k) hs
  have HLN := Lib.hid hln
  clear h hl hs hln
  go_enter Tryd.func15, Tryd.ntmps15
  go_wp2_with fail
  go_loopw [3, 4] (fun v vi wr => ∃ (k n : Nat) (bs : List UInt8), k ≤ l.length ∧ vi = .int .i64 k ∧ Hid (bs = textZ (l.take k) ∧ bs.length = n) ∧ Hid (wr.ownsRow w.heap.size 5 1 v n (Lib.byteCells bs)) ∧ Below w.heap.size w wr ∧ Hid (∃ A c, v = .slice A n c)) (fun _ vi _ => l.length - (intOf vi).toNat)
  case atStart => exact ⟨0, 0, [], Nat.zero_le _, rfl, ⟨rfl, rfl⟩, World.ownsRow_nil _ _ _ _, Below.refl _ _, ⟨none, 0, rfl⟩⟩
  case round =>
    obtain ⟨k, n, bs, hk, rfl, hbs, hO, hb, hform⟩ := hrel
    obtain ⟨A1, c1, rfl⟩ := hform.out
    clear hform
    by_cases hlt : k < l.length
    · obtain ⟨b, off, eA, hB, d0, d1, d2, d3⟩ := (HR.out.below hb).at_ k hlt
      cases eA
      have hst := textZ_take l k hlt
      have h1 := HLN.out k
      have h2 := HLN.out (k + 1)
      rw [hst, List.length_append, List.length_append] at h2
      rw [← hbs.out.1, hbs.out.2] at h2
      have zb : l[k].b.size + l[k].x.size + n ≤ 200100 := by simp at h2; omega
      have hltI : (k : Int) < l.length := by omega
      generalize l[k].b = tb at *
      generalize l[k].x = tx at *
      have HM1 : Hid (n + tb.size ≤ maxLen) := by unfold Hid maxLen; omega
      have HM2 : Hid (n + tb.size ≤ 140737488355328) := by unfold Hid; omega
      have HM3 : Hid (n + tb.size + tx.size ≤ maxLen) := by unfold Hid maxLen; omega
      have HM4 : Hid (n + tb.size + tx.size ≤ 140737488355328) := by unfold Hid; omega
      have HST := Lib.hid hst
      have HBS := Lib.hid hbs.out
      have HO := Lib.hid hO.out
      have HB := Lib.hid hb
      have hsz := hb.size
      have hne : ∀ g, Value.ownBlock (.slice A1 n c1) = some g → w.heap.size ≤ g := fun g e => (hO.out.lt g e).1
      have HNE := Lib.hid hne
      clear hst hbs h1 h2 zb hO hb hne d0 d3
      go_wp2_with fail
      go_region_held3 (fun w' => w'.cell? ⟨b, off + k * 4 + 1, none⟩ = some (.string tb) ∧ w'.cell? ⟨b, off + k * 4 + 2, none⟩ = some (.string tx))
        (first
          | go_keep
          | (go_split_ands
             refine ⟨?_, ?_⟩
             · (rw [hg2.cell_far _ (by simp; omega) (fun e => absurd (HNE.out _ e.symm) (by simp; omega))]; assumption)
             · (rw [hg2.cell_far _ (by simp; omega) (fun e => absurd (HNE.out _ e.symm) (by simp; omega))]; assumption))
          | (go_split_ands
             refine ⟨?_, ?_⟩
             · (rw [hg3.cell_far _ (by have := hg2.size; simp at this; simp; omega) (fun e => absurd (ho2.lt _ e.symm).1 (by simp; omega))]; assumption)
             · (rw [hg3.cell_far _ (by have := hg2.size; simp at this; simp; omega) (fun e => absurd (ho2.lt _ e.symm).1 (by simp; omega))]; assumption)))
        (first
          | (refine Lib.step_append_own_str _ (by rfl) (.tmp 11) (.tmp 16) 37 9 (by rfl) w.heap.size 5 iu Tryd.underlying37 Tryd.underlying9 hiu hu0 hu1 hu2 (.slice A1 n c1) n (Lib.byteCells bs) (by rfl) (HO.out.drew) tb (by rfl) HM1.out HM2.out (by simp; omega) ?_; intro v2 w2 ho2 hg2)
          | (refine Lib.step_append_own_str _ (by rfl) (.tmp 17) (.tmp 22) 37 9 (by rfl) w.heap.size 5 iu Tryd.underlying37 Tryd.underlying9 hiu hu0 hu1 hu2 v2 (n + tb.size) (Lib.byteCells bs ++ Lib.strCells tb) (by rfl) ho2 tx (by rfl) HM3.out HM4.out (by have := hg2.size; simp at this; omega) ?_; intro v3 w3 ho3 hg3))
      obtain ⟨A3, c3, rfl⟩ := own_len ho3
      have hs2 := hg2.size
      have HBN := Lib.hid (((HB.out.drew).grown hg2 (by simp; omega) (fun k e => HNE.out k e)).grown hg3 (by simp at hs2; omega) (fun k e => (ho2.lt k e).1))
      have HOW := Lib.hid ho3
      clear ho3 hg3 ho2 hg2 hs2
      go_wp2
      go_roundw
      case rel =>
        refine ⟨k + 1, n + tb.size + tx.size, bs ++ tb.data.toList ++ tx.data.toList, by omega, by go_num, ⟨by rw [HST.out, HBS.out.1], by rw [List.length_append, List.length_append, HBS.out.2]; simp⟩, ?_, HBN.out, ⟨A3, c3, rfl⟩⟩
        have h := HOW.out
        rw [strCells_bytesL, strCells_bytesL, ← byteCells_appendL, ← byteCells_appendL] at h
        exact h
      case measure => simp [intOf]; omega
    · obtain rfl : k = l.length := by omega
      have hnk : ¬ (l.length : Int) < l.length := by omega
      rw [List.take_length] at hbs
      have hO2 := hO.out
      rw [← hbs.out.2] at hO2
      have hcv := conv_ownL hO2
      rw [hbs.out.2, hbs.out.1] at hcv
      clear hO2 hbs hO hlt
      go_wp2
      go_ret
      exact ⟨rfl, hb⟩

end Go.Proofs.YtihnafocjognaaaDoor
