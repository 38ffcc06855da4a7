/- numbered: a number for each line, the same for the same lines. -/
import Derived.Test.YtgpmodbndngcoaaDoorLines
import Derived.Maps.OwnSet
import Derived.Maps.OwnOps
namespace Go.Proofs.YtgpmodbndngcoaaDoor
open Go.RowKit Go.Maps

/-- block g holds just the numbers xs -/
def IntsB (w : World) (g : Nat) (t : TypeId) (k : IntKind) (xs : List Nat) : Prop := w.heap[g]? = some (.cells (xs.map fun (n : Nat) => Value.int k (n : Int)).toArray t (0, 0))

section
variable {w w' : World} {g : Nat} {t : TypeId} {k : IntKind} {xs : List Nat}
theorem IntsB.lt (h : IntsB w g t k xs) : g < w.heap.size := (Array.getElem?_eq_some_iff.1 h).1
theorem IntsB.cell (h : IntsB w g t k xs) (i : Nat) (hi : i < xs.length) : w.cell? ⟨g, i, none⟩ = some (.int k (xs[i] : Int)) := by
  rw [cell_of_row w g i _ t (0, 0) h]; simp [hi]
theorem IntsB.frozen (h : IntsB w g t k xs) (o : Nat) : w.frozen? ⟨g, o, none⟩ = false := by
  unfold IntsB at h; simp [World.frozen?, h]
theorem IntsB.grown (h : IntsB w g t k xs) {row : Option Nat} (hg : w.grownBy w' row) (hne : some g ≠ row) : IntsB w' g t k xs := (hg.block g h.lt hne).trans h
theorem IntsB.set (h : IntsB w g t k xs) (i : Nat) (n : Nat) : IntsB (w.setCell ⟨g, i, none⟩ (.int k (n : Int))) g t k (xs.set i n) := by
  unfold IntsB at h ⊢
  simp [World.setCell, Array.getElem?_modify, h, List.map_set]
theorem IntsB.far (h : IntsB w g t k xs) {p : Addr} (hp : g ≠ p.block) (u : Value) : IntsB (w.setCell p u) g t k xs := (Below.heap_setCell w p u g hp).trans h
theorem IntsB.below {B : Nat} (h : IntsB w g t k xs) (hb : Below B w w') (hg : g < B) : IntsB w' g t k xs := (hb.block g hg).trans h
end

/-- the map in block bm has the keys ks, each with its place -/
def MapIs (w : World) (bm : Nat) (ks : List ByteArray) : Prop :=
  ∃ D : DataW Unit, w.ownsMap Tryd.prog 9 (plainElem Tryd.prog 3) bm ks.length D ∧ Maps.size D = ks.length ∧ (∀ s : ByteArray, Maps.has D (.string s.data.toList) = true ↔ s ∈ ks) ∧
    (∀ (i : Nat) (h : i < ks.length), D.atKey (.string ks[i].data.toList) (.lit (.int .i64 0)) = .lit (.int .i64 i)) ∧ ks.Nodup

theorem MapIs.kept {w w' : World} {bm : Nat} {ks : List ByteArray} (h : MapIs w bm ks) {row : Option Nat} (hg : w.grownBy w' row) (hne : some bm ≠ row) : MapIs w' bm ks := by
  obtain ⟨D, h1, h2⟩ := h
  exact ⟨D, h1.kept hg hne, h2⟩

theorem MapIs.lt {w : World} {bm : Nat} {ks : List ByteArray} (h : MapIs w bm ks) : bm < w.heap.size := by
  obtain ⟨D, h1, _⟩ := h
  exact h1.lt

theorem grownBy_set (W : World) (b o : Nat) (v : Value) : W.grownBy (W.setCell ⟨b, o, none⟩ v) (some b) :=
  ⟨rfl, rfl, rfl, by simp [World.setCell], fun k _ hk => Below.heap_setCell _ _ _ k (fun e => hk (by rw [e]))⟩

theorem MapIs.made (w : World) : MapIs (w.alloc (.map #[] 0)) w.heap.size [] :=
  ⟨.map [], World.ownsMap_made _ _ _ _, rfl, fun s => by simp [Maps.has], fun i h => by simp at h, List.nodup_nil⟩

theorem key_ne {a b : ByteArray} (h : a ≠ b) : (Lit.string a.data.toList) ≠ Lit.string b.data.toList := fun e => h (by
  injection e with e
  cases a; cases b; simp_all [Array.toList_inj])

theorem MapIs.put {w' : World} {bm : Nat} {ks : List ByteArray} {x : ByteArray} {D : DataW Unit} (hD : Tidy D) (h2 : Maps.size D = ks.length) (h3 : ∀ s : ByteArray, Maps.has D (.string s.data.toList) = true ↔ s ∈ ks)
    (h4 : ∀ (i : Nat) (h : i < ks.length), D.atKey (.string ks[i].data.toList) (.lit (.int .i64 0)) = .lit (.int .i64 i)) (h5 : ks.Nodup) (hx : x ∉ ks)
    (h : w'.ownsMap Tryd.prog 9 (plainElem Tryd.prog 3) bm (ks.length + 1) (D.put (.string x.data.toList) (.lit (.int .i64 ks.length)))) : MapIs w' bm (ks ++ [x]) := by
  have hk : WideAt.IsKeyLit (.string x.data.toList) := by simp [WideAt.IsKeyLit]
  refine ⟨_, by simpa using h, ?_, ?_, ?_, ?_⟩
  · have : Maps.has D (.string x.data.toList) = false := by
      cases e : Maps.has D (.string x.data.toList)
      · rfl
      · exact absurd ((h3 x).1 e) hx
    rw [size_put hD, this, h2]; simp
  · intro s
    by_cases hs : s = x
    · subst hs; rw [has_put_same hD.isMap hk]; simp
    · rw [has_put_other (key_ne hs), h3]; simp [hs]
  · intro i hi
    rw [List.length_append, List.length_singleton] at hi
    by_cases hik : i < ks.length
    · rw [List.getElem_append_left hik]
      have hne : ks[i] ≠ x := fun e => hx (e ▸ List.getElem_mem hik)
      rw [atKey_put_other (key_ne hne)]
      exact h4 i hik
    · obtain rfl : i = ks.length := by omega
      rw [List.getElem_append_right (Nat.le_refl _)]
      simp only [Nat.sub_self, List.getElem_cons_zero]
      rw [atKey_put_same hD.isMap hk]
  · rw [List.nodup_append]
    refine ⟨h5, by simp, fun a ha b hb => ?_⟩
    rw [List.mem_singleton] at hb
    subst hb
    exact fun e => hx (e ▸ ha)

theorem lawStr : Keyed Tryd.prog 9 := string_keyed Tryd.underlying9
theorem zeroInt (w : World) : (zeroValue 3).run Tryd.prog w = .ok (.int .i64 0) w := by kernel_rfl
theorem infoInt : (Tryd.prog.info? 3).map (fun i => (i.zero, i.size, i.bytes)) = some (some (.int .i64 0), 1, 8) := by kernel_rfl

/-- the numbers nums are the places of the lines in ks -/
def NumsOf (ks : List ByteArray) (lines : List ByteArray) (nums : List Nat) : Prop := nums.length = lines.length ∧ ∀ (i : Nat) (h : i < nums.length) (h' : i < lines.length), ks[nums[i]]? = some lines[i]

theorem made_list (v : Value) (n : Nat) : (madeCells #[v] n).toList = List.replicate n v := by
  apply List.ext_getElem
  · simp [madeCells]
  · intro i h1 h2
    simp [madeCells, Nat.mod_one]

theorem MapIs.apart {w : World} {bm : Nat} {ks : List ByteArray} (h : MapIs w bm ks) {b o : Nat} {v : Value} (hc : w.cell? ⟨b, o, none⟩ = some v) : b ≠ bm := by
  obtain ⟨D, ⟨es, clock, hb, _⟩, _⟩ := h
  rintro rfl
  simp [World.cell?, hb] at hc

theorem set_at (nums : List Nat) (n v : Nat) : (nums ++ List.replicate (n + 1) 0).set nums.length v = (nums ++ [v]) ++ List.replicate n 0 := by
  rw [List.set_append_right _ _ (Nat.le_refl _), Nat.sub_self, List.replicate_succ, List.set_cons_zero, List.append_assoc]
  rfl

theorem NumsOf.more {ks ks' lines : List ByteArray} {nums : List Nat} {k j : Nat} (h : NumsOf ks (lines.take k) nums) (hp : ks <+: ks') (hk : k < lines.length) (hj : ks'[j]? = some lines[k]) : NumsOf ks' (lines.take (k + 1)) (nums ++ [j]) := by
  obtain ⟨h1, h2⟩ := h
  have hl : (lines.take k).length = k := by rw [List.length_take]; omega
  refine ⟨by simp [h1]; omega, fun i hi hi' => ?_⟩
  rw [List.length_append, List.length_singleton] at hi
  rw [List.getElem_take]
  by_cases hik : i < nums.length
  · rw [List.getElem_append_left hik]
    have := h2 i hik (by omega)
    rw [List.getElem_take] at this
    obtain ⟨t, rfl⟩ := hp
    have hlt := (List.getElem?_eq_some_iff.1 this).1
    rw [List.getElem?_append_left hlt]
    exact this
  · obtain rfl : i = nums.length := by omega
    rw [List.getElem_append_right (Nat.le_refl _)]
    simp only [Nat.sub_self, List.getElem_cons_zero]
    have : nums.length = k := by omega
    subst this
    exact hj

theorem made_ints {w : World} {base g n : Nat} {t : TypeId} {k : IntKind} (h : w.ownsRow base t 1 (.slice (some ⟨g, 0, none⟩) n n) n (List.replicate n (Value.int k 0))) : IntsB w g t k (List.replicate n 0) ∧ base ≤ g := by
  rcases h.2 with ⟨e, _⟩ | ⟨g', cap, cur, e, hb, hg, hn, hc, hs, ht⟩
  · cases e
  · injection e with e1 e2 e3
    injection e1 with e1
    injection e1 with e1
    subst e1 e3
    refine ⟨?_, hb⟩
    rw [Nat.mul_one] at ht hs
    unfold IntsB
    rw [hg]
    congr 2
    have : cur.toList = List.replicate n (Value.int k 0) := by rw [← ht, List.take_of_length_le (by simp [hs])]
    rw [← Array.toArray_toList (xs := cur), this]
    simp [List.map_replicate]

set_option maxHeartbeats 1000000 in
set_option maxRecDepth 100000 in
theorem numbered_any (A : Option Addr) (c bm : Nat) (lines ks : List ByteArray) (w : World) (hl : lines.length ≤ 100000) (hk : ks.length ≤ 100000) (hx : ∀ x ∈ lines, x.size ≤ 8000000) (h : Rd w w.heap.size A (lines.map Value.string)) (hm : MapIs w bm ks) :
    Calls Tryd.prog 136 #[.slice A lines.length c, .map (some bm)] w fun e w' => ∃ g ks' nums, e = .returned (.slice (some ⟨g, 0, none⟩) lines.length lines.length) ∧ w.heap.size ≤ g ∧ IntsB w' g 3 .i64 nums ∧ NumsOf ks' lines nums ∧
      ks <+: ks' ∧ ks'.length ≤ ks.length + lines.length ∧ MapIs w' bm ks' ∧ w.grownBy w' (some bm) := by
  obtain ⟨i0, hi, hz0, hz1, hz2⟩ := info_parts infoInt
  have hbm := hm.lt
  have HH := Lib.hid h
  have HX := Lib.hid hx
  have HM := Lib.hid hm
  clear h hx hm
  go_enter Tryd.func136, Tryd.ntmps136
  go_wp2_with (at_make; refine wpList_make_full _ rfl _ _ 130 rfl w.heap.size 3 i0 (.int .i64 0) 1 Tryd.underlying130 hi hz0 hz1 .i64 .i64 _ _ lines.length rfl rfl rfl rfl (by rw [hz2]; omega) (by unfold maxLen; omega) (Nat.le_refl _) ?_; intro w1 hown hg1)
  have hown2 : w1.ownsRow w.heap.size 3 1 (.slice (some ⟨w.heap.size, 0, none⟩) lines.length lines.length) lines.length (List.replicate lines.length (Value.int .i64 0)) := by
    have e : (madeCells (Value.int .i64 0).cells (lines.length * 1)).toList = List.replicate lines.length (Value.int .i64 0) := by
      rw [Nat.mul_one]; exact made_list _ _
    rwa [e] at hown
  obtain ⟨hI1, _⟩ := made_ints hown2
  have hM1 := HM.out.kept hg1 (by simp)
  clear hown hown2
  go_loopw [15] (fun i wr => ∃ (k : Nat) (ks' : List ByteArray) (nums : List Nat), k ≤ lines.length ∧ i = .int .i64 k ∧ IntsB wr w.heap.size 3 .i64 (nums ++ List.replicate (lines.length - k) 0) ∧ Hid (NumsOf ks' (lines.take k) nums) ∧ Hid (ks <+: ks') ∧ ks'.length ≤ ks.length + k ∧ Hid (MapIs wr bm ks') ∧ Hid (w.grownBy wr (some bm)) ∧ nums.length = k) (fun i _ => lines.length - (intOf i).toNat)
  case atStart => exact ⟨0, ks, [], Nat.zero_le _, rfl, by simpa using hI1, ⟨rfl, fun i h => by simp at h⟩, List.prefix_refl _, by omega, hM1, ⟨hg1.os, hg1.tape, hg1.output, hg1.size, fun k hk _ => hg1.block k hk (by simp)⟩, rfl⟩
  case round =>
    obtain ⟨k, ks', nums, hk2, rfl, hI, hN, hP, hkl, hMM, hG, hnl⟩ := hrel
    have HNL := Lib.hid hnl
    by_cases hlt : k < lines.length
    · obtain ⟨D, hD1, hD2, hD3, hD4, hD5⟩ := hMM.out
      have hlen1 : 0 < (lines.map Value.string).length := by rw [List.length_map]; omega
      obtain ⟨b, off, rfl, hB, hc⟩ := HH.out hlen1
      have hck := hc k (.string lines[k]) (by simp [hlt])
      have hbne := HM.out.apart hck
      have hck2 : wr.cell? ⟨b, off + k, none⟩ = some (.string lines[k]) := (World.cell?_of_block (a := ⟨b, off + k, none⟩) (hG.out.block b hB (by simpa using hbne))).trans hck
      have hxs := HX.out _ (List.getElem_mem hlt)
      have hNM := fun ks2 (hp : ks' <+: ks2) j hj => Lib.hid (hN.out.more hp hlt (ks' := ks2) (j := j) hj)
      generalize hxe : lines[k] = x at *
      have hkey := WideMaps.keyOf_string_mk (P := Tryd.prog) Tryd.underlying9 (s := x) (by unfold maxLen; omega)
      have hgb : w.heap.size ≠ bm := by omega
      have hIl := hI.lt
      obtain ⟨r, hr⟩ : ∃ r, lines.length - k = r + 1 := ⟨lines.length - k - 1, by omega⟩
      rw [hr] at hI
      have hIcell := hI.cell k (by simp; omega)
      have hIfr := hI.frozen k
      have hset := fun v : Nat => set_at nums r v
      rw [HNL.out] at hset
      have HSET := Lib.hid hset
      have HR := Lib.hid hr
      have HN := Lib.hid hNM
      have HI := Lib.hid hI
      have HD4 := Lib.hid hD4
      have HD5 := Lib.hid hD5
      generalize (nums ++ List.replicate (r + 1) 0)[k]'_ = old at hIcell
      clear hc hck hset hr hNM hI hD4 hD5 hnl hxe
      by_cases hin : x ∈ ks'
      · have hhas : Maps.has D (.string x.data.toList) = true := (hD3 x).2 hin
        obtain ⟨j, hj, hje⟩ := List.getElem_of_mem hin
        have h4 := HD4.out j hj
        rw [hje] at h4
        have HJ := Lib.hid (show ks'[j]? = some x by rw [List.getElem?_eq_getElem hj, hje])
        have H4 := Lib.hid h4
        clear hD3 hin hje h4 HD4 HD5
        go_wp2_with (at_lookup; refine wpList_lookup_own_ok_int _ rfl _ _ 148 rfl 9 3 .i64 lawStr Tryd.underlying148 Tryd.underlying3 (zeroInt _) bm ks'.length D rfl hD1 _ _ rfl hkey ?_; intro c hat hwc; obtain rfl : c = (j : Int) := by (have e := hat.symm.trans H4.out; simpa using e))
        go_roundw
        case rel =>
          refine ⟨k + 1, ks', nums ++ [j], by omega, by go_num, ?_, (HN.out ks' (List.prefix_refl _) j HJ.out).out, hP.out, by omega, hMM.out.kept (grownBy_set wr w.heap.size k _) (by simpa using Ne.symm hgb), ?_, by simp [HNL.out]⟩
          · have h1 := HI.out.set k j
            rw [HSET.out, show r = lines.length - (k + 1) by have := HR.out; omega] at h1
            exact h1
          · have hg := hG.out
            exact ⟨hg.os, hg.tape, hg.output, by simpa [World.setCell] using hg.size, fun i hi hne => (Below.heap_setCell wr ⟨w.heap.size, k, none⟩ _ i (by simp; omega)).trans (hg.block i hi hne)⟩
        case measure => simp [intOf]; omega
      · have hhas : Maps.has D (.string x.data.toList) = false := by
          cases e : Maps.has D (.string x.data.toList)
          · rfl
          · exact absurd ((hD3 x).1 e) hin
        have hval := plainElem_int (H := Unit) (P := Tryd.prog) Tryd.underlying3 (WalkArith.wf_i64 (show (-9223372036854775808 : Int) ≤ (ks'.length : Int) ∧ (ks'.length : Int) ≤ 9223372036854775807 by omega))
        have HV := Lib.hid hval
        have HD2 := Lib.hid hD2
        have HTD := Lib.hid (hD1.tidy lawStr)
        have HD3 := Lib.hid hD3
        have HIN := Lib.hid hin
        clear hval hin hD3
        go_wp2_with (first
          | (at_lookup; refine wpList_lookup_own_ok_int _ rfl _ _ 148 rfl 9 3 .i64 lawStr Tryd.underlying148 Tryd.underlying3 (zeroInt _) bm ks'.length D rfl hD1 _ _ rfl hkey ?_; intro c hat hwc; clear hat hwc)
          | (at_len; refine wpList_len_own _ rfl _ 148 rfl 9 3 Tryd.underlying148 _ bm ks'.length D rfl hD1 ?_)
          | (at_mapUpdate; refine wpList_mapUpdate_own _ rfl _ _ _ 148 rfl 9 3 lawStr Tryd.underlying148 _ bm ks'.length D rfl hD1 (by unfold maxLen; omega) _ _ _ rfl rfl hkey _ [] HV.out ?_; intro w2 hown2 hg2; have hI2 := HI.out.grown hg2 (by simpa using hgb); have k1 := hI2.cell k (by simp; have := HNL.out; omega); have k2 := hI2.frozen k; have HI2 := Lib.hid hI2; generalize (nums ++ List.replicate (r + 1) 0)[k]'_ = old2 at k1; clear hI2))
        go_roundw
        case rel =>
          refine ⟨k + 1, ks' ++ [x], nums ++ [ks'.length], by omega, by go_num, ?_, (HN.out (ks' ++ [x]) (List.prefix_append _ _) ks'.length (by simp)).out, hP.out.trans (List.prefix_append _ _), by simp; omega, ?_, ?_, by simp [HNL.out]⟩
          · have h1 := HI2.out.set k ks'.length
            rw [HSET.out, show r = lines.length - (k + 1) by have := HR.out; omega] at h1
            exact h1
          · exact (MapIs.put HTD.out HD2.out HD3.out HD4.out HD5.out HIN.out hown2).kept (grownBy_set w2 w.heap.size k _) (by simpa using Ne.symm hgb)
          · have hg := hG.out
            exact ⟨hg2.os.trans hg.os, hg2.tape.trans hg.tape, hg2.output.trans hg.output, by have := hg.size; have := hg2.size; simp [World.setCell]; omega, fun i hi hne => (Below.heap_setCell w2 ⟨w.heap.size, k, none⟩ _ i (by simp; omega)).trans ((hg2.block i (Nat.lt_of_lt_of_le hi hg.size) hne).trans (hg.block i hi hne))⟩
        case measure => simp [intOf]; omega
    · obtain rfl : k = lines.length := by omega
      have hN1 := hN.out
      rw [List.take_length] at hN1
      rw [Nat.sub_self, List.replicate_zero, List.append_nil] at hI
      have HI := Lib.hid hI
      have HN1 := Lib.hid hN1
      clear hI hN hN1
      go_wp2
      go_ret
      exact ⟨w.heap.size, ks', nums, rfl, Nat.le_refl _, HI.out, HN1.out, hP.out, hkl, hMM.out, hG.out⟩

end Go.Proofs.YtgpmodbndngcoaaDoor
