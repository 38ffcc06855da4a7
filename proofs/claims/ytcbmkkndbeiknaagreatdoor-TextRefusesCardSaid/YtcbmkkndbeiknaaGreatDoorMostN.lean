/- numbered: a number for each line, the same for the same lines. mostKept: the table of how many lines can be kept. -/
import Derived.Test.YtcbmkkndbeiknaaGreatDoorLin
import Derived.Maps.OwnSet
import Derived.Maps.OwnOps
import Derived.RegionTactic

namespace Go.Proofs.YtcbmkkndbeiknaaGreatDoor
open Go.RowKit Go.Maps

/-- block g holds just the numbers xs -/
def IntsB (w : World) (g : Nat) (t : TypeId) (k : IntKind) (xs : List Nat) : Prop := w.heap[g]? = some (.cells (xs.map fun (n : Nat) => Value.int k (n : Int)).toArray t (0, 0))

section
variable {w w' : World} {g : Nat} {t : TypeId} {k : IntKind} {xs : List Nat}
theorem IntsB.lt (h : IntsB w g t k xs) : g < w.heap.size := (Array.getElem?_eq_some_iff.1 h).1
theorem IntsB.cell (h : IntsB w g t k xs) (i : Nat) (hi : i < xs.length) : w.cell? ⟨g, i, none⟩ = some (.int k (xs[i] : Int)) := by
  rw [cell_of_row w g i _ t (0, 0) h]; simp [hi]
theorem IntsB.frozen (h : IntsB w g t k xs) (o : Nat) : w.frozen? ⟨g, o, none⟩ = false := by
  unfold IntsB at h; simp [World.frozen?, h]
theorem IntsB.grown (h : IntsB w g t k xs) {row : Option Nat} (hg : w.grownBy w' row) (hne : some g ≠ row) : IntsB w' g t k xs := (hg.block g h.lt hne).trans h
theorem IntsB.set (h : IntsB w g t k xs) (i : Nat) (n : Nat) : IntsB (w.setCell ⟨g, i, none⟩ (.int k (n : Int))) g t k (xs.set i n) := by
  unfold IntsB at h ⊢
  simp [World.setCell, Array.getElem?_modify, h, List.map_set]
theorem IntsB.far (h : IntsB w g t k xs) {p : Addr} (hp : g ≠ p.block) (u : Value) : IntsB (w.setCell p u) g t k xs := (Below.heap_setCell w p u g hp).trans h
theorem IntsB.below {B : Nat} (h : IntsB w g t k xs) (hb : Below B w w') (hg : g < B) : IntsB w' g t k xs := (hb.block g hg).trans h
end

/-- the map in block bm has the keys ks, each with its place -/
def MapIs (w : World) (bm : Nat) (ks : List ByteArray) : Prop :=
  ∃ D : DataW Unit, w.ownsMap Tryz.prog 9 (plainElem Tryz.prog 3) bm ks.length D ∧ Maps.size D = ks.length ∧ (∀ s : ByteArray, Maps.has D (.string s.data.toList) = true ↔ s ∈ ks) ∧
    (∀ (i : Nat) (h : i < ks.length), D.atKey (.string ks[i].data.toList) (.lit (.int .i64 0)) = .lit (.int .i64 i)) ∧ ks.Nodup

theorem MapIs.kept {w w' : World} {bm : Nat} {ks : List ByteArray} (h : MapIs w bm ks) {row : Option Nat} (hg : w.grownBy w' row) (hne : some bm ≠ row) : MapIs w' bm ks := by
  obtain ⟨D, h1, h2⟩ := h
  exact ⟨D, h1.kept hg hne, h2⟩

theorem MapIs.lt {w : World} {bm : Nat} {ks : List ByteArray} (h : MapIs w bm ks) : bm < w.heap.size := by
  obtain ⟨D, h1, _⟩ := h
  exact h1.lt

theorem grownBy_set (W : World) (b o : Nat) (v : Value) : W.grownBy (W.setCell ⟨b, o, none⟩ v) (some b) :=
  ⟨rfl, rfl, rfl, by simp [World.setCell], fun k _ hk => Below.heap_setCell _ _ _ k (fun e => hk (by rw [e]))⟩

theorem MapIs.made (w : World) : MapIs (w.alloc (.map #[] 0)) w.heap.size [] :=
  ⟨.map [], World.ownsMap_made _ _ _ _, rfl, fun s => by simp [Maps.has], fun i h => by simp at h, List.nodup_nil⟩

theorem key_ne {a b : ByteArray} (h : a ≠ b) : (Lit.string a.data.toList) ≠ Lit.string b.data.toList := fun e => h (by
  injection e with e
  cases a; cases b; simp_all [Array.toList_inj])

theorem MapIs.put {w' : World} {bm : Nat} {ks : List ByteArray} {x : ByteArray} {D : DataW Unit} (hD : Tidy D) (h2 : Maps.size D = ks.length) (h3 : ∀ s : ByteArray, Maps.has D (.string s.data.toList) = true ↔ s ∈ ks)
    (h4 : ∀ (i : Nat) (h : i < ks.length), D.atKey (.string ks[i].data.toList) (.lit (.int .i64 0)) = .lit (.int .i64 i)) (h5 : ks.Nodup) (hx : x ∉ ks)
    (h : w'.ownsMap Tryz.prog 9 (plainElem Tryz.prog 3) bm (ks.length + 1) (D.put (.string x.data.toList) (.lit (.int .i64 ks.length)))) : MapIs w' bm (ks ++ [x]) := by
  have hk : WideAt.IsKeyLit (.string x.data.toList) := by simp [WideAt.IsKeyLit]
  refine ⟨_, by simpa using h, ?_, ?_, ?_, ?_⟩
  · have : Maps.has D (.string x.data.toList) = false := by
      cases e : Maps.has D (.string x.data.toList)
      · rfl
      · exact absurd ((h3 x).1 e) hx
    rw [size_put hD, this, h2]; simp
  · intro s
    by_cases hs : s = x
    · subst hs; rw [has_put_same hD.isMap hk]; simp
    · rw [has_put_other (key_ne hs), h3]; simp [hs]
  · intro i hi
    rw [List.length_append, List.length_singleton] at hi
    by_cases hik : i < ks.length
    · rw [List.getElem_append_left hik]
      have hne : ks[i] ≠ x := fun e => hx (e ▸ List.getElem_mem hik)
      rw [atKey_put_other (key_ne hne)]
      exact h4 i hik
    · obtain rfl : i = ks.length := by omega
      rw [List.getElem_append_right (Nat.le_refl _)]
      simp only [Nat.sub_self, List.getElem_cons_zero]
      rw [atKey_put_same hD.isMap hk]
  · rw [List.nodup_append]
    refine ⟨h5, by simp, fun a ha b hb => ?_⟩
    rw [List.mem_singleton] at hb
    subst hb
    exact fun e => hx (e ▸ ha)

theorem lawStr : Keyed Tryz.prog 9 := string_keyed Tryz.underlying9
theorem zeroInt (w : World) : (zeroValue 3).run Tryz.prog w = .ok (.int .i64 0) w := by kernel_rfl
theorem infoInt : (Tryz.prog.info? 3).map (fun i => (i.zero, i.size, i.bytes)) = some (some (.int .i64 0), 1, 8) := by kernel_rfl

/-- the numbers nums are the places of the lines in ks -/
def NumsOf (ks : List ByteArray) (lines : List ByteArray) (nums : List Nat) : Prop := nums.length = lines.length ∧ ∀ (i : Nat) (h : i < nums.length) (h' : i < lines.length), ks[nums[i]]? = some lines[i]

theorem made_list (v : Value) (n : Nat) : (madeCells #[v] n).toList = List.replicate n v := by
  apply List.ext_getElem
  · simp [madeCells]
  · intro i h1 h2
    simp [madeCells, Nat.mod_one]

theorem MapIs.apart {w : World} {bm : Nat} {ks : List ByteArray} (h : MapIs w bm ks) {b o : Nat} {v : Value} (hc : w.cell? ⟨b, o, none⟩ = some v) : b ≠ bm := by
  obtain ⟨D, ⟨es, clock, hb, _⟩, _⟩ := h
  rintro rfl
  simp [World.cell?, hb] at hc

theorem set_at (nums : List Nat) (n v : Nat) : (nums ++ List.replicate (n + 1) 0).set nums.length v = (nums ++ [v]) ++ List.replicate n 0 := by
  rw [List.set_append_right _ _ (Nat.le_refl _), Nat.sub_self, List.replicate_succ, List.set_cons_zero, List.append_assoc]
  rfl

theorem NumsOf.more {ks ks' lines : List ByteArray} {nums : List Nat} {k j : Nat} (h : NumsOf ks (lines.take k) nums) (hp : ks <+: ks') (hk : k < lines.length) (hj : ks'[j]? = some lines[k]) : NumsOf ks' (lines.take (k + 1)) (nums ++ [j]) := by
  obtain ⟨h1, h2⟩ := h
  have hl : (lines.take k).length = k := by rw [List.length_take]; omega
  refine ⟨by simp [h1]; omega, fun i hi hi' => ?_⟩
  rw [List.length_append, List.length_singleton] at hi
  rw [List.getElem_take]
  by_cases hik : i < nums.length
  · rw [List.getElem_append_left hik]
    have := h2 i hik (by omega)
    rw [List.getElem_take] at this
    obtain ⟨t, rfl⟩ := hp
    have hlt := (List.getElem?_eq_some_iff.1 this).1
    rw [List.getElem?_append_left hlt]
    exact this
  · obtain rfl : i = nums.length := by omega
    rw [List.getElem_append_right (Nat.le_refl _)]
    simp only [Nat.sub_self, List.getElem_cons_zero]
    have : nums.length = k := by omega
    subst this
    exact hj

theorem made_ints {w : World} {base g n : Nat} {t : TypeId} {k : IntKind} (h : w.ownsRow base t 1 (.slice (some ⟨g, 0, none⟩) n n) n (List.replicate n (Value.int k 0))) : IntsB w g t k (List.replicate n 0) ∧ base ≤ g := by
  rcases h.2 with ⟨e, _⟩ | ⟨g', cap, cur, e, hb, hg, hn, hc, hs, ht⟩
  · cases e
  · injection e with e1 e2 e3
    injection e1 with e1
    injection e1 with e1
    subst e1 e3
    refine ⟨?_, hb⟩
    rw [Nat.mul_one] at ht hs
    unfold IntsB
    rw [hg]
    congr 2
    have : cur.toList = List.replicate n (Value.int k 0) := by rw [← ht, List.take_of_length_le (by simp [hs])]
    rw [← Array.toArray_toList (xs := cur), this]
    simp [List.map_replicate]

set_option maxHeartbeats 1000000 in
set_option maxRecDepth 100000 in
theorem numbered_any (A : Option Addr) (c bm : Nat) (lines ks : List ByteArray) (w : World) (hl : lines.length ≤ 100000) (hk : ks.length ≤ 100000) (hx : ∀ x ∈ lines, x.size ≤ 8000000) (h : Rd w w.heap.size A (lines.map Value.string)) (hm : MapIs w bm ks) :
    Calls Tryz.prog 74 #[.slice A lines.length c, .map (some bm)] w fun e w' => ∃ g ks' nums, e = .returned (.slice (some ⟨g, 0, none⟩) lines.length lines.length) ∧ w.heap.size ≤ g ∧ IntsB w' g 3 .i64 nums ∧ NumsOf ks' lines nums ∧
      ks <+: ks' ∧ ks'.length ≤ ks.length + lines.length ∧ MapIs w' bm ks' ∧ w.grownBy w' (some bm) := by
  obtain ⟨i0, hi, hz0, hz1, hz2⟩ := info_parts infoInt
  have hbm := hm.lt
  have HH := Lib.hid h
  have HX := Lib.hid hx
  have HM := Lib.hid hm
  clear h hx hm
  go_enter Tryz.func74, Tryz.ntmps74
  go_wp2_with (at_make; refine wpList_make_full _ rfl _ _ 84 rfl w.heap.size 3 i0 (.int .i64 0) 1 Tryz.underlying84 hi hz0 hz1 .i64 .i64 _ _ lines.length rfl rfl rfl rfl (by rw [hz2]; omega) (by unfold maxLen; omega) (Nat.le_refl _) ?_; intro w1 hown hg1)
  have hown2 : w1.ownsRow w.heap.size 3 1 (.slice (some ⟨w.heap.size, 0, none⟩) lines.length lines.length) lines.length (List.replicate lines.length (Value.int .i64 0)) := by
    have e : (madeCells (Value.int .i64 0).cells (lines.length * 1)).toList = List.replicate lines.length (Value.int .i64 0) := by
      rw [Nat.mul_one]; exact made_list _ _
    rwa [e] at hown
  obtain ⟨hI1, _⟩ := made_ints hown2
  have hM1 := HM.out.kept hg1 (by simp)
  clear hown hown2
  go_loopw [15] (fun i wr => ∃ (k : Nat) (ks' : List ByteArray) (nums : List Nat), k ≤ lines.length ∧ i = .int .i64 k ∧ IntsB wr w.heap.size 3 .i64 (nums ++ List.replicate (lines.length - k) 0) ∧ Hid (NumsOf ks' (lines.take k) nums) ∧ Hid (ks <+: ks') ∧ ks'.length ≤ ks.length + k ∧ Hid (MapIs wr bm ks') ∧ Hid (w.grownBy wr (some bm)) ∧ nums.length = k) (fun i _ => lines.length - (intOf i).toNat)
  case atStart => exact ⟨0, ks, [], Nat.zero_le _, rfl, by simpa using hI1, ⟨rfl, fun i h => by simp at h⟩, List.prefix_refl _, by omega, hM1, ⟨hg1.os, hg1.tape, hg1.output, hg1.size, fun k hk _ => hg1.block k hk (by simp)⟩, rfl⟩
  case round =>
    obtain ⟨k, ks', nums, hk2, rfl, hI, hN, hP, hkl, hMM, hG, hnl⟩ := hrel
    have HNL := Lib.hid hnl
    by_cases hlt : k < lines.length
    · obtain ⟨D, hD1, hD2, hD3, hD4, hD5⟩ := hMM.out
      have hlen1 : 0 < (lines.map Value.string).length := by rw [List.length_map]; omega
      obtain ⟨b, off, rfl, hB, hc⟩ := HH.out hlen1
      have hck := hc k (.string lines[k]) (by simp [hlt])
      have hbne := HM.out.apart hck
      have hck2 : wr.cell? ⟨b, off + k, none⟩ = some (.string lines[k]) := (World.cell?_of_block (a := ⟨b, off + k, none⟩) (hG.out.block b hB (by simpa using hbne))).trans hck
      have hxs := HX.out _ (List.getElem_mem hlt)
      have hNM := fun ks2 (hp : ks' <+: ks2) j hj => Lib.hid (hN.out.more hp hlt (ks' := ks2) (j := j) hj)
      generalize hxe : lines[k] = x at *
      have hkey := WideMaps.keyOf_string_mk (P := Tryz.prog) Tryz.underlying9 (s := x) (by unfold maxLen; omega)
      have hgb : w.heap.size ≠ bm := by omega
      have hIl := hI.lt
      obtain ⟨r, hr⟩ : ∃ r, lines.length - k = r + 1 := ⟨lines.length - k - 1, by omega⟩
      rw [hr] at hI
      have hIcell := hI.cell k (by simp; omega)
      have hIfr := hI.frozen k
      have hset := fun v : Nat => set_at nums r v
      rw [HNL.out] at hset
      have HSET := Lib.hid hset
      have HR := Lib.hid hr
      have HN := Lib.hid hNM
      have HI := Lib.hid hI
      have HD4 := Lib.hid hD4
      have HD5 := Lib.hid hD5
      generalize (nums ++ List.replicate (r + 1) 0)[k]'_ = old at hIcell
      clear hc hck hset hr hNM hI hD4 hD5 hnl hxe
      by_cases hin : x ∈ ks'
      · have hhas : Maps.has D (.string x.data.toList) = true := (hD3 x).2 hin
        obtain ⟨j, hj, hje⟩ := List.getElem_of_mem hin
        have h4 := HD4.out j hj
        rw [hje] at h4
        have HJ := Lib.hid (show ks'[j]? = some x by rw [List.getElem?_eq_getElem hj, hje])
        have H4 := Lib.hid h4
        clear hD3 hin hje h4 HD4 HD5
        go_wp2_with (at_lookup; refine wpList_lookup_own_ok_int _ rfl _ _ 128 rfl 9 3 .i64 lawStr Tryz.underlying128 Tryz.underlying3 (zeroInt _) bm ks'.length D rfl hD1 _ _ rfl hkey ?_; intro c hat hwc; obtain rfl : c = (j : Int) := by (have e := hat.symm.trans H4.out; simpa using e))
        go_roundw
        case rel =>
          refine ⟨k + 1, ks', nums ++ [j], by omega, by go_num, ?_, (HN.out ks' (List.prefix_refl _) j HJ.out).out, hP.out, by omega, hMM.out.kept (grownBy_set wr w.heap.size k _) (by simpa using Ne.symm hgb), ?_, by simp [HNL.out]⟩
          · have h1 := HI.out.set k j
            rw [HSET.out, show r = lines.length - (k + 1) by have := HR.out; omega] at h1
            exact h1
          · have hg := hG.out
            exact ⟨hg.os, hg.tape, hg.output, by simpa [World.setCell] using hg.size, fun i hi hne => (Below.heap_setCell wr ⟨w.heap.size, k, none⟩ _ i (by simp; omega)).trans (hg.block i hi hne)⟩
        case measure => simp [intOf]; omega
      · have hhas : Maps.has D (.string x.data.toList) = false := by
          cases e : Maps.has D (.string x.data.toList)
          · rfl
          · exact absurd ((hD3 x).1 e) hin
        have hval := plainElem_int (H := Unit) (P := Tryz.prog) Tryz.underlying3 (WalkArith.wf_i64 (show (-9223372036854775808 : Int) ≤ (ks'.length : Int) ∧ (ks'.length : Int) ≤ 9223372036854775807 by omega))
        have HV := Lib.hid hval
        have HD2 := Lib.hid hD2
        have HTD := Lib.hid (hD1.tidy lawStr)
        have HD3 := Lib.hid hD3
        have HIN := Lib.hid hin
        clear hval hin hD3
        go_wp2_with (first
          | (at_lookup; refine wpList_lookup_own_ok_int _ rfl _ _ 128 rfl 9 3 .i64 lawStr Tryz.underlying128 Tryz.underlying3 (zeroInt _) bm ks'.length D rfl hD1 _ _ rfl hkey ?_; intro c hat hwc; clear hat hwc)
          | (at_len; refine wpList_len_own _ rfl _ 128 rfl 9 3 Tryz.underlying128 _ bm ks'.length D rfl hD1 ?_)
          | (at_mapUpdate; refine wpList_mapUpdate_own _ rfl _ _ _ 128 rfl 9 3 lawStr Tryz.underlying128 _ bm ks'.length D rfl hD1 (by unfold maxLen; omega) _ _ _ rfl rfl hkey _ [] HV.out ?_; intro w2 hown2 hg2; have hI2 := HI.out.grown hg2 (by simpa using hgb); have k1 := hI2.cell k (by simp; have := HNL.out; omega); have k2 := hI2.frozen k; have HI2 := Lib.hid hI2; generalize (nums ++ List.replicate (r + 1) 0)[k]'_ = old2 at k1; clear hI2))
        go_roundw
        case rel =>
          refine ⟨k + 1, ks' ++ [x], nums ++ [ks'.length], by omega, by go_num, ?_, (HN.out (ks' ++ [x]) (List.prefix_append _ _) ks'.length (by simp)).out, hP.out.trans (List.prefix_append _ _), by simp; omega, ?_, ?_, by simp [HNL.out]⟩
          · have h1 := HI2.out.set k ks'.length
            rw [HSET.out, show r = lines.length - (k + 1) by have := HR.out; omega] at h1
            exact h1
          · exact (MapIs.put HTD.out HD2.out HD3.out HD4.out HD5.out HIN.out hown2).kept (grownBy_set w2 w.heap.size k _) (by simpa using Ne.symm hgb)
          · have hg := hG.out
            exact ⟨hg2.os.trans hg.os, hg2.tape.trans hg.tape, hg2.output.trans hg.output, by have := hg.size; have := hg2.size; simp [World.setCell]; omega, fun i hi hne => (Below.heap_setCell w2 ⟨w.heap.size, k, none⟩ _ i (by simp; omega)).trans ((hg2.block i (Nat.lt_of_lt_of_le hi hg.size) hne).trans (hg.block i hi hne))⟩
        case measure => simp [intOf]; omega
    · obtain rfl : k = lines.length := by omega
      have hN1 := hN.out
      rw [List.take_length] at hN1
      rw [Nat.sub_self, List.replicate_zero, List.append_nil] at hI
      have HI := Lib.hid hI
      have HN1 := Lib.hid hN1
      clear hI hN hN1
      go_wp2
      go_ret
      exact ⟨w.heap.size, ks', nums, rfl, Nat.le_refl _, HI.out, HN1.out, hP.out, hkl, hMM.out, hG.out⟩

end Go.Proofs.YtcbmkkndbeiknaaGreatDoor

namespace Go.Proofs.YtcbmkkndbeiknaaGreatDoor
open Go.RowKit Go.Maps

/-- how many lines can be kept of a and b -/
def lcsL : List ByteArray → List ByteArray → Nat
  | [], _ => 0
  | _ :: _, [] => 0
  | x :: a, y :: b => if x = y then lcsL a b + 1 else max (lcsL a (y :: b)) (lcsL (x :: a) b)
termination_by a b => a.length + b.length

/-- .. from places on -/
def keepN (a b : List ByteArray) (i j : Nat) : Nat := lcsL (a.drop i) (b.drop j)

theorem lcsL_le : ∀ a b : List ByteArray, lcsL a b ≤ a.length ∧ lcsL a b ≤ b.length
  | [], b => by rw [lcsL]; simp
  | _ :: _, [] => by rw [lcsL]; simp
  | x :: a, y :: b => by
    rw [lcsL]
    have h1 := lcsL_le a b
    have h2 := lcsL_le a (y :: b)
    have h3 := lcsL_le (x :: a) b
    simp only [List.length_cons] at *
    split <;> omega
termination_by a b => a.length + b.length

theorem keepN_endA (a b : List ByteArray) (i j : Nat) (h : a.length ≤ i) : keepN a b i j = 0 := by
  unfold keepN; rw [List.drop_eq_nil_of_le h, lcsL]
theorem keepN_endB (a b : List ByteArray) (i j : Nat) (h : b.length ≤ j) : keepN a b i j = 0 := by
  unfold keepN; rw [List.drop_eq_nil_of_le h]
  cases a.drop i <;> rw [lcsL]
theorem keepN_step (a b : List ByteArray) (i j : Nat) (hi : i < a.length) (hj : j < b.length) : keepN a b i j = if a[i] = b[j] then keepN a b (i + 1) (j + 1) + 1 else max (keepN a b (i + 1) j) (keepN a b i (j + 1)) := by
  unfold keepN
  rw [List.drop_eq_getElem_cons hi, List.drop_eq_getElem_cons hj, lcsL, ← List.drop_eq_getElem_cons hi, ← List.drop_eq_getElem_cons hj]
theorem keepN_le (a b : List ByteArray) (i j : Nat) : keepN a b i j ≤ a.length - i := by
  have := (lcsL_le (a.drop i) (b.drop j)).1
  rwa [List.length_drop] at this

/-- the slice with one cell for each row -/
def rowsC (m : Nat) (rows : List Nat) : List Value := rows.map fun g => Value.slice (some ⟨g, 0, none⟩) (m + 1) (m + 1)

theorem infoRow : (Tryz.prog.info? 110).map (fun i => (i.zero, i.size, i.bytes)) = some (some (.slice none 0 0), 1, 24) := by kernel_rfl
theorem infoU16 : (Tryz.prog.info? 109).map (fun i => (i.zero, i.size, i.bytes)) = some (some (.int .u16 0), 1, 2) := by kernel_rfl

theorem nums_eq {ks a b : List ByteArray} {xs ys : List Nat} (hn : ks.Nodup) (ha : NumsOf ks a xs) (hb : NumsOf ks b ys) (i j : Nat) (hi : i < a.length) (hj : j < b.length) : (xs[i]'(by rw [ha.1]; exact hi) = ys[j]'(by rw [hb.1]; exact hj)) ↔ a[i] = b[j] := by
  have h1 := ha.2 i (by rw [ha.1]; exact hi) hi
  have h2 := hb.2 j (by rw [hb.1]; exact hj) hj
  constructor
  · intro e
    rw [e, h2] at h1
    exact (Option.some.inj h1).symm
  · intro e
    rw [e] at h1
    obtain ⟨l1, e1⟩ := List.getElem?_eq_some_iff.1 h1
    obtain ⟨l2, e2⟩ := List.getElem?_eq_some_iff.1 h2
    have hp := List.pairwise_iff_getElem.1 hn
    rcases Nat.lt_trichotomy (xs[i]'(by rw [ha.1]; exact hi)) (ys[j]'(by rw [hb.1]; exact hj)) with g | g | g
    · exact absurd (e1.trans e2.symm) (hp _ _ l1 l2 g)
    · exact g
    · exact absurd (e2.trans e1.symm) (hp _ _ l2 l1 g)

theorem NumsOf.longer {ks ks' a : List ByteArray} {xs : List Nat} (h : NumsOf ks a xs) (hp : ks <+: ks') : NumsOf ks' a xs := by
  refine ⟨h.1, fun i hi hi' => ?_⟩
  have := h.2 i hi hi'
  obtain ⟨t, rfl⟩ := hp
  rw [List.getElem?_append_left (List.getElem?_eq_some_iff.1 this).1]
  exact this

theorem Rd.grown {w w' : World} {B : Nat} {A : Option Addr} {xs : List Value} (h : Rd w B A xs) {row : Option Nat} (hg : w.grownBy w' row) (hB : B ≤ w.heap.size) (hr : ∀ g, row = some g → B ≤ g) : Rd w' B A xs :=
  h.keep fun b o hb => World.cell?_of_block (a := ⟨b, o, none⟩) (hg.block b (by omega) (fun e => by have := hr _ e.symm; omega))

/-- block g holds just the cells cs -/
def CellsB (w : World) (g : Nat) (t : TypeId) (cs : List Value) : Prop := w.heap[g]? = some (.cells cs.toArray t (0, 0))
section
variable {w w' : World} {g : Nat} {t : TypeId} {cs : List Value}
theorem CellsB.lt (h : CellsB w g t cs) : g < w.heap.size := (Array.getElem?_eq_some_iff.1 h).1
theorem CellsB.cell (h : CellsB w g t cs) (i : Nat) : w.cell? ⟨g, i, none⟩ = cs[i]? := by
  rw [cell_of_row w g i _ t (0, 0) h]; simp
theorem CellsB.frozen (h : CellsB w g t cs) (o : Nat) : w.frozen? ⟨g, o, none⟩ = false := by
  unfold CellsB at h; simp [World.frozen?, h]
theorem CellsB.grown (h : CellsB w g t cs) {row : Option Nat} (hg : w.grownBy w' row) (hne : some g ≠ row) : CellsB w' g t cs := (hg.block g h.lt hne).trans h
theorem CellsB.far (h : CellsB w g t cs) {p : Addr} (hp : g ≠ p.block) (u : Value) : CellsB (w.setCell p u) g t cs := (Below.heap_setCell w p u g hp).trans h
theorem CellsB.set (h : CellsB w g t cs) (i : Nat) (v : Value) : CellsB (w.setCell ⟨g, i, none⟩ v) g t (cs.set i v) := by
  unfold CellsB at h ⊢
  simp [World.setCell, Array.getElem?_modify, h]
end

theorem made_cells {w : World} {base g n : Nat} {t : TypeId} {v : Value} (h : w.ownsRow base t 1 (.slice (some ⟨g, 0, none⟩) n n) n (List.replicate n v)) : CellsB w g t (List.replicate n v) := by
  rcases h.2 with ⟨e, _⟩ | ⟨g', cap, cur, e, hb, hg, hn, hc, hs, ht⟩
  · cases e
  · injection e with e1 e2 e3
    injection e1 with e1
    injection e1 with e1
    subst e1 e3
    rw [Nat.mul_one] at ht hs
    unfold CellsB
    rw [hg]
    congr 2
    have : cur.toList = List.replicate n v := by rw [← ht, List.take_of_length_le (by simp [hs])]
    rw [← Array.toArray_toList (xs := cur), this]

/-- the table: its rows, and what they hold -/
def TabW (w : World) (gt n m : Nat) (rows : List Nat) (V : Nat → Nat → Nat) : Prop :=
  CellsB w gt 110 (rowsC m rows) ∧ rows.length = n + 1 ∧ rows.Pairwise (· < ·) ∧ (∀ r ∈ rows, gt < r) ∧ ∀ (r : Nat) (h : r < rows.length), IntsB w rows[r] 109 .u16 ((List.range (m + 1)).map (V r))

theorem TabW.top {w : World} {gt n m : Nat} {rows : List Nat} {V : Nat → Nat → Nat} (h : TabW w gt n m rows V) (i : Nat) (hi : i < n + 1) : w.cell? ⟨gt, i, none⟩ = some (.slice (some ⟨rows[i]'(by rw [h.2.1]; exact hi), 0, none⟩) (m + 1) (m + 1)) := by
  have hl : i < rows.length := by rw [h.2.1]; exact hi
  rw [h.1.cell]
  simp [rowsC, hl]

theorem TabW.cell {w : World} {gt n m : Nat} {rows : List Nat} {V : Nat → Nat → Nat} (h : TabW w gt n m rows V) (i j : Nat) (hi : i < n + 1) (hj : j < m + 1) : w.cell? ⟨rows[i]'(by rw [h.2.1]; exact hi), j, none⟩ = some (.int .u16 (V i j)) := by
  rw [(h.2.2.2.2 i (by rw [h.2.1]; exact hi)).cell j (by simpa using hj)]
  simp

theorem TabW.kept {w w' : World} {gt n m : Nat} {rows : List Nat} {V : Nat → Nat → Nat} (h : TabW w gt n m rows V) (hb : Below w.heap.size w w') : TabW w' gt n m rows V :=
  ⟨(hb.block _ h.1.lt).trans h.1, h.2.1, h.2.2.1, h.2.2.2.1, fun r hr => (hb.block _ (h.2.2.2.2 r hr).lt).trans (h.2.2.2.2 r hr)⟩

theorem TabW.drew {w : World} {gt n m : Nat} {rows : List Nat} {V : Nat → Nat → Nat} (h : TabW w gt n m rows V) : TabW w.drew gt n m rows V := h

theorem TabW.put {w : World} {gt n m : Nat} {rows : List Nat} {V : Nat → Nat → Nat} (h : TabW w gt n m rows V) (i j v : Nat) (hi : i < n + 1) (_hj : j < m + 1) :
    TabW (w.setCell ⟨rows[i]'(by rw [h.2.1]; exact hi), j, none⟩ (.int .u16 (v : Int))) gt n m rows (fun r c => if r = i ∧ c = j then v else V r c) := by
  obtain ⟨h1, h2, h3, h4, h5⟩ := h
  have hil : i < rows.length := by rw [h2]; exact hi
  refine ⟨h1.far (by have := h4 _ (List.getElem_mem hil); simp; omega) _, h2, h3, h4, fun r hr => ?_⟩
  by_cases hri : r = i
  · subst hri
    have := (h5 r hr).set j v
    have e : ((List.range (m + 1)).map (V r)).set j v = (List.range (m + 1)).map fun c => if r = r ∧ c = j then v else V r c := by
      apply List.ext_getElem
      · simp
      · intro c hc1 hc2
        rw [List.getElem_set]
        simp only [List.getElem_map, List.getElem_range, true_and]
        by_cases hcj : j = c
        · rw [if_pos hcj, if_pos hcj.symm]
        · rw [if_neg hcj, if_neg (fun e => hcj e.symm)]
    rwa [e] at this
  · have hp := List.pairwise_iff_getElem.1 h3
    have hne : rows[r] ≠ rows[i] := by
      rcases Nat.lt_or_ge r i with g | g
      · have := hp r i hr hil g; omega
      · have := hp i r hil hr (by omega); omega
    have := (h5 r hr).far (p := ⟨rows[i], j, none⟩) hne (.int .u16 (v : Int))
    have e : (List.range (m + 1)).map (V r) = (List.range (m + 1)).map fun c => if r = i ∧ c = j then v else V r c := by
      apply List.map_congr_left
      intro c _
      rw [if_neg (fun e => hri e.1)]
    rwa [e] at this

/-- the first k rows are made -/
def Tab1 (w : World) (gt n m k : Nat) (rows : List Nat) : Prop :=
  CellsB w gt 110 (rowsC m rows ++ List.replicate (n + 1 - k) (.slice none 0 0)) ∧ rows.length = k ∧ rows.Pairwise (· < ·) ∧ (∀ r ∈ rows, gt < r ∧ r < w.heap.size) ∧ ∀ (r : Nat) (h : r < rows.length), IntsB w rows[r] 109 .u16 (List.replicate (m + 1) 0)

theorem Tab1.step {w w' : World} {gt n m k : Nat} {rows : List Nat} (h : Tab1 w gt n m k rows) (hk : k < n + 1) (hg : w.grownBy w' none) (hI : IntsB w' w.heap.size 109 .u16 (List.replicate (m + 1) 0)) :
    Tab1 (w'.setCell ⟨gt, k, none⟩ (.slice (some ⟨w.heap.size, 0, none⟩) (m + 1) (m + 1))) gt n m (k + 1) (rows ++ [w.heap.size]) := by
  obtain ⟨h1, h2, h3, h4, h5⟩ := h
  have hgt := h1.lt
  have hlt := hI.lt
  refine ⟨?_, by simp [h2], ?_, ?_, ?_⟩
  · have := (h1.grown hg (by simp)).set k (.slice (some ⟨w.heap.size, 0, none⟩) (m + 1) (m + 1))
    obtain ⟨r, hr⟩ : ∃ r, n + 1 - k = r + 1 := ⟨n - k, by omega⟩
    have hl : (rowsC m rows).length = k := by simp [rowsC, h2]
    rw [hr, List.set_append_right _ _ (by omega), hl, Nat.sub_self, List.replicate_succ, List.set_cons_zero] at this
    rw [show n + 1 - (k + 1) = r by omega]
    simpa [rowsC] using this
  · rw [List.pairwise_append]
    exact ⟨h3, by simp, fun a ha b hb => by rw [List.mem_singleton] at hb; have := (h4 a ha).2; omega⟩
  · intro r hr
    rw [List.mem_append, List.mem_singleton] at hr
    have hs := hg.size
    have e : (w'.setCell ⟨gt, k, none⟩ (.slice (some ⟨w.heap.size, 0, none⟩) (m + 1) (m + 1))).heap.size = w'.heap.size := by simp [World.setCell]
    rw [e]
    rcases hr with hr | rfl
    · have := h4 r hr; omega
    · exact ⟨hgt, hlt⟩
  · intro r hr
    rw [List.length_append, List.length_singleton] at hr
    by_cases hrk : r < rows.length
    · rw [List.getElem_append_left hrk]
      exact ((h5 r hrk).grown hg (by simp)).far (by have := (h4 _ (List.getElem_mem hrk)).1; simp only; omega) _
    · obtain rfl : r = rows.length := by omega
      rw [List.getElem_append_right (Nat.le_refl _)]
      simp only [Nat.sub_self, List.getElem_cons_zero]
      exact hI.far (by simp only; omega) _

theorem Tab1.whole {w : World} {gt n m : Nat} {rows : List Nat} (h : Tab1 w gt n m (n + 1) rows) : TabW w gt n m rows (fun _ _ => 0) := by
  obtain ⟨h1, h2, h3, h4, h5⟩ := h
  refine ⟨by simpa using h1, h2, h3, fun r hr => (h4 r hr).1, fun r hr => ?_⟩
  have e : (List.range (m + 1)).map ((fun _ _ => 0 : Nat → Nat → Nat) r) = List.replicate (m + 1) 0 := by
    apply List.ext_getElem <;> simp
  rw [e]; exact h5 r hr

/-- what the table holds when the rows after i and the cells of row i from l on are done -/
def doneW (a b : List ByteArray) (i l : Nat) : Nat → Nat → Nat := fun r c => if i < r ∨ (r = i ∧ l ≤ c) then keepN a b r c else 0

theorem doneW_start (a b : List ByteArray) : (fun _ _ => 0 : Nat → Nat → Nat) = doneW a b a.length 0 := by
  funext r c
  unfold doneW
  split
  · rw [keepN_endA a b r c (by omega)]
  · rfl
theorem doneW_row (a b : List ByteArray) (i : Nat) : doneW a b (i + 1) 0 = doneW a b i b.length := by
  funext r c
  unfold doneW
  by_cases h : i + 1 ≤ r
  · rw [if_pos (by omega), if_pos (by omega)]
  · rw [if_neg (by omega)]
    split
    · rw [keepN_endB a b r c (by omega)]
    · rfl
theorem doneW_put (a b : List ByteArray) (i j : Nat) : (fun r c => if r = i ∧ c = j then keepN a b i j else doneW a b i (j + 1) r c) = doneW a b i j := by
  funext r c
  unfold doneW
  by_cases h : r = i ∧ c = j
  · obtain ⟨rfl, rfl⟩ := h
    rw [if_pos ⟨rfl, rfl⟩, if_pos (by omega)]
  · rw [if_neg h]
    by_cases h2 : i < r ∨ (r = i ∧ j + 1 ≤ c)
    · rw [if_pos h2, if_pos (by omega)]
    · rw [if_neg h2, if_neg (by omega)]
theorem doneW_end (a b : List ByteArray) : doneW a b 0 0 = keepN a b := by
  funext r c
  unfold doneW
  rw [if_pos (by omega)]

theorem doneW_below (a b : List ByteArray) (i l c : Nat) : doneW a b i l (i + 1) c = keepN a b (i + 1) c := by unfold doneW; rw [if_pos (by omega)]
theorem doneW_right (a b : List ByteArray) (i l c : Nat) (h : l ≤ c) : doneW a b i l i c = keepN a b i c := by unfold doneW; rw [if_pos (by omega)]

theorem TabW.cell' {w : World} {gt n m : Nat} {rows : List Nat} {V : Nat → Nat → Nat} (h : TabW w gt n m rows V) (i j r : Nat) (hr : rows[i]? = some r) (hj : j < m + 1) : w.cell? ⟨r, j, none⟩ = some (.int .u16 (V i j)) := by
  obtain ⟨h1, rfl⟩ := List.getElem?_eq_some_iff.1 hr
  exact h.cell i j (by rw [← h.2.1]; exact h1) hj
theorem TabW.frozen' {w : World} {gt n m : Nat} {rows : List Nat} {V : Nat → Nat → Nat} (h : TabW w gt n m rows V) (i j r : Nat) (hr : rows[i]? = some r) : w.frozen? ⟨r, j, none⟩ = false := by
  obtain ⟨h1, rfl⟩ := List.getElem?_eq_some_iff.1 hr
  exact (h.2.2.2.2 i h1).frozen j
theorem TabW.put' {w : World} {gt n m : Nat} {a b : List ByteArray} {rows : List Nat} {i j r : Nat} (h : TabW w gt n m rows (doneW a b i (j + 1))) (u : Int) (hr : rows[i]? = some r) (hj : j < m + 1) (hu : u = keepN a b i j) :
    TabW (w.setCell ⟨r, j, none⟩ (.int .u16 u)) gt n m rows (doneW a b i j) := by
  obtain ⟨h1, rfl⟩ := List.getElem?_eq_some_iff.1 hr
  subst hu
  rw [← doneW_put]
  exact h.put i j _ (by rw [← h.2.1]; exact h1) hj

set_option maxHeartbeats 2000000 in
set_option maxRecDepth 100000 in
theorem mostKept_any (A A2 : Option Addr) (c c2 : Nat) (a b : List ByteArray) (w : World) (ha : a.length ≤ 2000) (hb : b.length ≤ 2000) (hxa : ∀ x ∈ a, x.size ≤ 8000000) (hxb : ∀ x ∈ b, x.size ≤ 8000000)
    (h1 : Rd w w.heap.size A (a.map Value.string)) (h2 : Rd w w.heap.size A2 (b.map Value.string)) :
    Calls Tryz.prog 58 #[.slice A a.length c, .slice A2 b.length c2] w fun e w' => ∃ gt rows, e = .returned (.slice (some ⟨gt, 0, none⟩) (a.length + 1) (a.length + 1)) ∧ TabW w' gt a.length b.length rows (keepN a b) ∧ Below w.heap.size w w' := by
  have hmm := @run_makeMap Tryz.prog
  obtain ⟨i0, hi, hz0, hz1, hz2⟩ := info_parts infoRow
  obtain ⟨i1, hi1, hy0, hy1, hy2⟩ := info_parts infoU16
  have hn1 := numbered_any A c w.heap.size a [] (w.alloc (.map #[] 0)) (by omega) (by simp) hxa ((h1.below ((Below.refl _ w).alloc (Nat.le_refl _) _)).more (by simp)) (MapIs.made w)
  have HN1 := Lib.hid hn1
  have H2 := Lib.hid h2
  clear hn1 h1 h2
  go_enter Tryz.func58, Tryz.ntmps58
  go_wp2_with fail
  refine HN1.out.mono ?_
  rintro e w1 ⟨gx, ks1, xs, rfl, hgx, hIx, hNx, _, hks1, hM1, hg1⟩
  have hsz1 : w.heap.size + 1 ≤ w1.heap.size := by have := hg1.size; simpa using this
  have h2' : Rd w1 w1.heap.size A2 (b.map Value.string) := ((H2.out.below ((Below.refl _ w).alloc (Nat.le_refl _) (.map #[] 0))).grown hg1 (by simp) (fun g e => by cases e; exact Nat.le_refl _)).more (by omega)
  have hn2 := numbered_any A2 c2 w.heap.size b ks1 w1 (by omega) (by simp at hks1; omega) hxb h2' hM1
  have HN2 := Lib.hid hn2
  have hB1 : Below w.heap.size w w1 := ((Below.refl _ w).alloc (Nat.le_refl _) (.map #[] 0)).grown hg1 (by simp) (fun g e => by cases e; exact Nat.le_refl _)
  clear hn2 h2' HN1
  go_wp2_with fail
  refine HN2.out.mono ?_
  rintro e w2 ⟨gy, ks2, ys, rfl, hgy, hIy, hNy, hp2, hks2, hM2, hg2⟩
  have hB2 : Below w.heap.size w w2 := hB1.grown hg2 (by omega) (fun g e => by cases e; exact Nat.le_refl _)
  have hIx2 := hIx.grown hg2 (by simp; simp at hgx; omega)
  have hnod : ks2.Nodup := by obtain ⟨D, _, _, _, _, h⟩ := hM2; exact h
  have hxl := hNx.1
  have hyl := hNy.1
  have heq : ∀ (i j : Nat) (g1 : i < xs.length) (g2 : j < ys.length) (hi : i < a.length) (hj : j < b.length), xs[i] = ys[j] ↔ a[i] = b[j] := by
    intro i j g1 g2 hi hj
    exact nums_eq hnod (hNx.longer hp2) hNy i j hi hj
  have hgx2 := hIx2.lt
  have hgy2 := hIy.lt
  have HEQ := Lib.hid heq
  have HIX := Lib.hid hIx2
  have HIY := Lib.hid hIy
  have HB2 := Lib.hid hB2
  have hsz2 : w.heap.size ≤ w2.heap.size := hB2.size
  clear hB1 hB2 hIx hIx2 hIy hNx hNy hp2 hks2 hM2 hg2 hM1 hg1 hks1 HN2 heq hnod H2
  have HXL := Lib.hid hxl
  have HYL := Lib.hid hyl
  clear hxl hyl hxa hxb
  go_wp2_with (at_make; go_loud (refine wpList_make_full _ rfl _ _ 107 rfl w.heap.size 110 i0 (.slice none 0 0) 1 Tryz.underlying107 hi hz0 hz1 .i64 .i64 _ _ (a.length + 1) rfl rfl (by omega) (by omega) (by rw [hz2]; omega) (by unfold maxLen; omega) hsz2 ?_); intro w3 hown hg3)
  have hC3 : CellsB w3 w2.heap.size 110 (List.replicate (a.length + 1) (.slice none 0 0)) := by
    refine made_cells (base := w.heap.size) ?_
    have e : (madeCells (Value.slice none 0 0).cells ((a.length + 1) * 1)).toList = List.replicate (a.length + 1) (.slice none 0 0) := by
      rw [Nat.mul_one]; exact made_list _ _
    rwa [e] at hown
  have hT3 : Tab1 w3 w2.heap.size a.length b.length 0 [] := ⟨by simpa [rowsC] using hC3, rfl, List.Pairwise.nil, by simp, by simp⟩
  have HT3 := Lib.hid hT3
  have HIX3 := Lib.hid (HIX.out.grown hg3 (by simp))
  have HIY3 := Lib.hid (HIY.out.grown hg3 (by simp))
  have HB3 := Lib.hid (HB2.out.grown hg3 hsz2 (by simp))
  clear hT3 hC3 hown HIX HIY HB2 hg3
  have hgtx : gx ≠ w2.heap.size := by omega
  have hgty : gy ≠ w2.heap.size := by omega
  generalize w2.heap.size = gt at *
  go_loopw [27] (fun v wr => ∃ (k : Nat) (rows : List Nat), v = .int .i64 k ∧ k ≤ a.length + 1 ∧ Hid (Tab1 wr gt a.length b.length k rows) ∧ Hid (IntsB wr gx 3 .i64 xs) ∧ Hid (IntsB wr gy 3 .i64 ys) ∧ Hid (Below w.heap.size w wr)) (fun v _ => a.length + 1 - (intOf v).toNat)
  case atStart => exact ⟨0, [], rfl, by omega, HT3.out, HIX3.out, HIY3.out, HB3.out⟩
  case round =>
    obtain ⟨k, rows, rfl, hk, hT, hX, hY, hB⟩ := hrel
    by_cases hlt : k < a.length + 1
    · have hszr : w.heap.size ≤ wr.heap.size := hB.out.size
      have hC1 := hT.out.1
      have hl1 : (rowsC b.length rows).length = k := by simp [rowsC, hT.out.2.1]
      have hfr := hC1.frozen k
      have hcl := hC1.cell k
      rw [List.getElem?_append_right (by omega), hl1, Nat.sub_self, show a.length + 1 - k = (a.length - k) + 1 by omega, List.replicate_succ, List.getElem?_cons_zero] at hcl
      have hC1H := Lib.hid hC1
      clear hC1 hl1 hcl hfr
      go_wp2_with (at_make; go_loud (refine wpList_make_full _ rfl _ _ 110 rfl w.heap.size 109 i1 (.int .u16 0) 1 Tryz.underlying110 hi1 hy0 hy1 .i64 .i64 _ _ (b.length + 1) rfl rfl (by omega) (by omega) (by rw [hy2]; omega) (by unfold maxLen; omega) hszr ?_); intro w4 hown4 hg4; have hC4 := (hC1H.out.grown hg4 (by simp)).cell k; have hF4 := (hC1H.out.grown hg4 (by simp)).frozen k; rw [List.getElem?_append_right (by simp [rowsC, hT.out.2.1]), show (rowsC b.length rows).length = k by simp [rowsC, hT.out.2.1], Nat.sub_self, show a.length + 1 - k = (a.length - k) + 1 by omega, List.replicate_succ, List.getElem?_cons_zero] at hC4)
      go_roundw
      case rel =>
        refine ⟨k + 1, rows ++ [wr.heap.size], by go_num, by omega, ?_, ?_, ?_, ?_⟩
        · refine hT.out.step hlt hg4 ?_
          refine (made_ints (base := w.heap.size) ?_).1
          have e : (madeCells (Value.int .u16 0).cells ((b.length + 1) * 1)).toList = List.replicate (b.length + 1) (Value.int .u16 0) := by
            rw [Nat.mul_one]; exact made_list _ _
          rwa [e] at hown4
        · exact (hX.out.grown hg4 (by simp)).far (by simp only; have := hgtx; omega) _
        · exact (hY.out.grown hg4 (by simp)).far (by simp only; have := hgty; omega) _
        · exact (hB.out.grown hg4 hszr (by simp)).setCell (by simp only; omega) _
      case measure => simp [intOf]; omega
    · obtain rfl : k = a.length + 1 := by omega
      have hV := hT.out.whole
      rw [doneW_start a b] at hV
      have HV := Lib.hid hV
      clear hV hT
      go_wp2
      clear hgtx hgty hsz1 HB3 HIX3 HIY3
      obtain ⟨wf, rfl⟩ : ∃ wf : World, wf = wr := ⟨_, rfl⟩
      go_loopw [10, 11, 12, 13] (fun v _ _ _ wr => ∃ (k : Nat), v = .int .i64 ((k : Int) - 1) ∧ k ≤ a.length ∧ Hid (TabW wr gt a.length b.length rows (doneW a b k 0)) ∧ Hid (IntsB wr gx 3 .i64 xs) ∧ Hid (IntsB wr gy 3 .i64 ys) ∧ Hid (Below w.heap.size w wr)) (fun v _ _ _ _ => (intOf v + 1).toNat)
      case atStart => exact ⟨a.length, by go_num, Nat.le_refl _, HV.out, hX.out, hY.out, hB.out⟩
      case round =>
        obtain ⟨k, rfl, hk2, hT, hX, hY, hB⟩ := hrel
        by_cases hk0 : 0 < k
        · obtain ⟨i, rfl⟩ : ∃ i, k = i + 1 := ⟨k - 1, by omega⟩
          have hil : i < a.length := by omega
          have e0 : ((i + 1 : Nat) : Int) - 1 = (i : Int) := by omega
          rw [e0]
          have t1 := hT.out.top i (by omega)
          have t2 := hT.out.top (i + 1) (by omega)
          have hl := hT.out.2.1
          have hgr := hT.out.2.2.2.1
          have hne := fun g (hg : IntsB wr g 3 .i64 xs) => hg
          have e1 : ((i : Int) + 1).toNat = i + 1 := by omega
          have hr1 : rows[i]? = some (rows[i]'(by omega)) := List.getElem?_eq_getElem _
          have hr2 : rows[i + 1]? = some (rows[i + 1]'(by omega)) := List.getElem?_eq_getElem _
          have hgr1 := hgr _ (List.getElem_mem (show i < rows.length by omega))
          generalize rows[i]'(by omega) = ri at *
          generalize rows[i + 1]'(by omega) = rj at *
          have HL := Lib.hid hl
          have HR1 := Lib.hid hr1
          have HR2 := Lib.hid hr2
          clear hl hgr hne hr1 hr2
          have hTd := Lib.hid (show TabW wr.drew gt a.length b.length rows (doneW a b i b.length) by
            have := hT.out
            rw [doneW_row] at this
            exact this)
          have hXd := Lib.hid (show IntsB wr.drew gx 3 .i64 xs from hX.out)
          have hYd := Lib.hid (show IntsB wr.drew gy 3 .i64 ys from hY.out)
          have hBd := Lib.hid (hB.out.drew)
          clear hT hX hY hB
          go_wp2
          go_region
          go_wp2
          clear t1 t2 HV
          obtain ⟨wo, rfl⟩ : ∃ wo : World, wo = wr := ⟨_, rfl⟩
          go_loopw [13] (fun v wr => ∃ (l : Nat), v = .int .i64 ((l : Int) - 1) ∧ l ≤ b.length ∧ Hid (TabW wr gt a.length b.length rows (doneW a b i l)) ∧ Hid (IntsB wr gx 3 .i64 xs) ∧ Hid (IntsB wr gy 3 .i64 ys) ∧ Hid (Below w.heap.size w wr)) (fun v _ => (intOf v + 1).toNat)
          case atStart => exact ⟨b.length, by go_num, Nat.le_refl _, hTd.out, hXd.out, hYd.out, hBd.out⟩
          case round =>
            obtain ⟨l, rfl, hl2, hT, hX, hY, hB⟩ := hrel
            clear hTd hXd hYd hBd
            by_cases hl0 : 0 < l
            · obtain ⟨j, rfl⟩ : ∃ j, l = j + 1 := ⟨l - 1, by omega⟩
              have hjl : j < b.length := by omega
              have e2 : ((j + 1 : Nat) : Int) - 1 = (j : Int) := by omega
              rw [e2]
              have hix : i < xs.length := by rw [HXL.out]; exact hil
              have hjy : j < ys.length := by rw [HYL.out]; exact hjl
              have x1 := hX.out.cell i hix
              have y1 := hY.out.cell j hjy
              have hq := HEQ.out i j hix hjy hil hjl
              have hst := keepN_step a b i j hil hjl
              have m1 := hT.out.cell' (i + 1) (j + 1) rj HR2.out (by omega)
              have m2 := hT.out.cell' (i + 1) j rj HR2.out (by omega)
              have m3 := hT.out.cell' i (j + 1) ri HR1.out (by omega)
              have m4 := hT.out.cell' i j ri HR1.out (by omega)
              have f4 := hT.out.frozen' i j ri HR1.out
              rw [doneW_below] at m1 m2
              rw [doneW_right _ _ _ _ _ (Nat.le_refl _)] at m3
              have b1 := keepN_le a b (i + 1) (j + 1)
              have b2 := keepN_le a b (i + 1) j
              have b3 := keepN_le a b i (j + 1)
              have e3 : ((j : Int) + 1).toNat = j + 1 := by omega
              generalize doneW a b i (j + 1) i j = old at m4
              generalize xs[i] = xi at *
              generalize ys[j] = yj at *
              by_cases hxy : xi = yj
              · rw [if_pos (hq.1 hxy)] at hst
                have hxyI : (xi : Int) = yj := by omega
                have hSt := fun (u : Int) (hu : u = _) => Lib.hid (hT.out.put' u HR1.out (by omega) (hu.trans (congrArg Nat.cast hst.symm)))
                generalize keepN a b (i + 1) (j + 1) = k1 at *
                have HSt := Lib.hid hSt
                clear hSt hst hq m2 m3 b2 b3 hT hxy
                go_wp2
                go_region
                go_wp2
                go_roundw
                case rel =>
                  refine ⟨j, by go_num, by omega, (HSt.out _ (by go_num)).out, hX.out.far (by simp only; omega) _, hY.out.far (by simp only; omega) _, hB.out.drew.setCell (by simp only; omega) _⟩
                case measure => simp [intOf]
              · rw [if_neg (fun e => hxy (hq.2 e))] at hst
                have hxyI : ¬ (xi : Int) = yj := by omega
                have hSt := fun (u : Int) (hu : u = _) => Lib.hid (hT.out.put' u HR1.out (by omega) (hu.trans (congrArg Nat.cast hst.symm)))
                generalize keepN a b (i + 1) j = k1 at *
                generalize keepN a b i (j + 1) = k2 at *
                have HSt := Lib.hid hSt
                clear hSt hst hq m1 b1 hT hxy
                go_wp2
                go_region
                go_wp2
                go_region
                go_wp2
                go_roundw
                case rel =>
                  refine ⟨j, by go_num, by omega, (HSt.out _ (by go_num)).out, hX.out.far (by simp only; omega) _, hY.out.far (by simp only; omega) _, ((hB.out.setCell (by simp only; omega) _).drew).drew⟩
                case measure => simp [intOf]
            · obtain rfl : l = 0 := by omega
              go_wp2
              go_roundw
              case rel => exact ⟨i, by go_num, by omega, hT.out, hX.out, hY.out, hB.out⟩
              case measure => simp [intOf]
        · obtain rfl : k = 0 := by omega
          have hT2 := hT.out
          rw [doneW_end] at hT2
          have HT2 := Lib.hid hT2
          clear hT hT2
          go_wp2
          go_ret
          exact ⟨gt, rows, rfl, HT2.out, hB.out⟩

end Go.Proofs.YtcbmkkndbeiknaaGreatDoor
