/- Leaf: the deepest node that has a token; the program's and the document's. -/
import Derived.Test.YtcndfihcjaoifaaAwk

namespace Go.Proofs.Ytcndfihcjaoifaa
open Go.RowKit Go.Maps

/-- whether a node has a token -/
def hasB (tok : Int) (x : Nd) : Bool := decide (x.f ≤ tok) && decide (tok < x.t)

mutual
/-- the path, from a node that has it, to the deepest node that has a token -/
def Nd.leafN (tok : Int) : Nd → List Int
  | .mk _ _ _ _ _ _ _ l => leafL tok 0 l
def leafL (tok : Int) : Nat → List Nd → List Int
  | _, [] => []
  | i, x :: l => if hasB tok x = true then (i : Int) :: x.leafN tok else leafL tok (i + 1) l
end

theorem leafL_hit (tok : Int) : ∀ (l : List Nd) (i j : Nat) (h : j < l.length), (∀ k (hk : k < l.length), k < j → hasB tok l[k] = false) → hasB tok l[j] = true → leafL tok i l = ((i + j : Nat) : Int) :: l[j].leafN tok
  | [], _, _, h, _, _ => by simp at h
  | x :: l, i, 0, _, _, h2 => by
    simp only [List.getElem_cons_zero] at h2
    rw [leafL, if_pos h2]; rfl
  | x :: l, i, j + 1, h, h1, h2 => by
    have h0 := h1 0 (by simp) (by omega)
    simp only [List.getElem_cons_zero] at h0
    rw [leafL, if_neg (by rw [h0]; simp), leafL_hit tok l (i + 1) j (by simpa using h) (fun k hk hkj => by have := h1 (k + 1) (by simpa using hk) (by omega); simpa using this) (by simpa using h2), show i + 1 + j = i + (j + 1) by omega]
    rfl

theorem leafL_none (tok : Int) : ∀ (l : List Nd) (i : Nat), (∀ k (hk : k < l.length), hasB tok l[k] = false) → leafL tok i l = []
  | [], _, _ => by rw [leafL]
  | x :: l, i, h => by
    have h0 := h 0 (by simp)
    simp only [List.getElem_cons_zero] at h0
    rw [leafL, if_neg (by rw [h0]; simp), leafL_none tok l (i + 1) fun k hk => by have := h (k + 1) (by simpa using hk); simpa using this]

set_option maxHeartbeats 1000000 in
theorem has_any (tok : Int) (Bt : Nat) (x : Nd) (w : World) (h : w.cell? ⟨Bt, 0, none⟩ = some (.int .i64 tok)) :
    Calls Try.prog 45 #[x.val, .pointer (some ⟨Bt, 0, none⟩)] w fun e w' => e = .returned (.bool (hasB tok x)) ∧ Below w.heap.size w w' := by
  have hlt := World.block_lt_of_cell? w _ h
  simp only at hlt
  cases x with
  | mk op s n f t A c l =>
  rw [Nd.val_mk]
  have HB : Hid (hasB tok (.mk op s n f t A c l) = (decide (f ≤ tok) && decide (tok < t))) := rfl
  have hne : ¬ Bt = w.heap.size := by omega
  go_enter Try.func45, Try.ntmps45
  go_wp2_with fail
  all_goals go_ret
  all_goals exact ⟨ret_bool (by rw [HB.out, Bool.eq_iff_iff]; simp; omega), (Below.refl _ _).alloc (Nat.le_refl _) _⟩

/-- the first part that has a token, or -1 -/
def IdxR (tok : Int) (l : List Nd) (r : Int) : Prop :=
  (r = -1 ∧ ∀ k (hk : k < l.length), hasB tok l[k] = false) ∨ (∃ j : Nat, r = (j : Int) ∧ ∃ h : j < l.length, hasB tok l[j] = true ∧ ∀ k (hk : k < l.length), k < j → hasB tok l[k] = false)
def IdxP (tok : Int) (l : List Nd) (w : World) (e : Ending) (w' : World) : Prop := ∃ r : Int, e = .returned (.int .i64 r) ∧ IdxR tok l r ∧ Below w.heap.size w w'

set_option maxHeartbeats 1000000 in
set_option maxRecDepth 100000 in
theorem indexFunc_any (tok : Int) (Bt : Nat) (A : Option Addr) (c : Nat) (l : List Nd) (w : World) (ht : w.cell? ⟨Bt, 0, none⟩ = some (.int .i64 tok)) (h : NdSl w w.heap.size A l) :
    Calls Try.prog 46 #[.slice A l.length c, .func (.func 45) #[] #[.pointer (some ⟨Bt, 0, none⟩)]] w (IdxP tok l w) := by
  have hl := h.2.1
  have hlt := World.block_lt_of_cell? w _ ht
  simp only at hlt
  have HH := Lib.hid h
  have HT := Lib.hid ht
  clear h ht
  go_enter Try.func46, Try.ntmps46
  go_wp2_with fail
  go_loopw [8] (fun i wr => ∃ j : Nat, j ≤ l.length ∧ i = .int .i64 j ∧ Hid (∀ k (hk : k < l.length), k < j → hasB tok l[k] = false) ∧ Below w.heap.size w wr) (fun i _ => l.length - (intOf i).toNat)
  case atStart => exact ⟨0, Nat.zero_le _, rfl, (fun k _ h => by omega), Below.refl _ _⟩
  case round =>
    obtain ⟨j, hj, rfl, HP, hb⟩ := hrel
    by_cases hjl : j < l.length
    · obtain ⟨b, off, rfl, hB, p0, p1, p2, p3, p4, p5, hx⟩ := (HH.out.below hb hb.size).at_ j hjl
      have cal := has_any tok Bt l[j] wr ((hb.cell (p := ⟨Bt, 0, none⟩) hlt).trans HT.out)
      have s1 : hasB tok l[j] = true → IdxR tok l j := fun e => .inr ⟨j, rfl, hjl, e, HP.out⟩
      have s2 : hasB tok l[j] = false → ∀ k (hk : k < l.length), k < j + 1 → hasB tok l[k] = false := fun e k hk hkj => by
        by_cases hkj2 : k = j
        · subst hkj2; exact e
        · exact HP.out k hk (by omega)
      generalize l[j] = x at *
      obtain ⟨op, s, n, f, t, A', c', l'⟩ := x
      simp only [Nd.A, Nd.c, Nd.l, Nd.op, Nd.s, Nd.n, Nd.f, Nd.t] at *
      rw [Nd.val_mk] at cal
      have S1 := Lib.hid s1
      have S2 := Lib.hid s2
      have CAL := Lib.hid cal
      have HB := Lib.hid hb
      clear s1 s2 cal hb HP HH HT hx
      obtain ⟨q, hq⟩ : ∃ q, q = hasB tok (.mk op s n f t A' c' l') := ⟨_, rfl⟩
      rw [← hq] at S1 S2 CAL
      clear hq
      cases q with
      | true =>
        go_wp2_with fail
        refine CAL.out.mono ?_
        rintro e w2 ⟨rfl, hb2⟩
        have HB2 : Hid (Below w.heap.size w w2) := HB.out.trans (hb2.mono HB.out.size)
        have S3 := Lib.hid (S1.out (by trivial))
        clear hb2 HB CAL S1 S2
        go_wp2_with fail
        go_ret
        exact ⟨_, rfl, S3.out, HB2.out⟩
      | false =>
        go_wp2_with fail
        refine CAL.out.mono ?_
        rintro e w2 ⟨rfl, hb2⟩
        have HB2 : Hid (Below w.heap.size w w2) := HB.out.trans (hb2.mono HB.out.size)
        have S3 := Lib.hid (S2.out (by trivial))
        clear hb2 HB CAL S1 S2
        go_wp2_with fail
        go_roundw
        case rel => exact ⟨j + 1, by omega, by go_num, S3, HB2.out⟩
        case measure => simp [intOf]; omega
    · have S3 : Hid (IdxR tok l (-1)) := .inl ⟨rfl, fun k hk => HP.out k hk (by omega)⟩
      have HB := Lib.hid hb
      clear HP HH HT hb
      go_wp2_with fail
      go_ret
      exact ⟨_, rfl, S3.out, HB.out⟩

theorem infoIntT : (Try.prog.info? 3).map (fun i => (i.zero, i.size, i.bytes)) = some (some (.int .i64 0), 1, 8) := by kernel_rfl
theorem own_lenT {w : World} {b n : Nat} {e : TypeId} {k : Nat} {v : Value} {xs : List Value} (h : w.ownsRow b e k v n xs) : ∃ A c, v = .slice A n c := by
  rcases h.2 with ⟨e, e0⟩ | ⟨g, cap, cur, e, _⟩
  · exact ⟨none, 0, by rw [e, e0]⟩
  · exact ⟨_, _, e⟩
theorem own_belowT {w w' : World} {b n : Nat} {e : TypeId} {k : Nat} {v : Value} {xs : List Value} (h : w.ownsRow b e k v n xs) (hb : Below w.heap.size w w') : w'.ownsRow b e k v n xs :=
  h.kept (grownBy_below hb none) (by cases v.ownBlock <;> simp)
theorem grow_belowT {W w5 : World} {B k n : Nat} {e : TypeId} {v : Value} {xs : List Value} (h2 : W.grownBy w5 v.ownBlock) (ho : W.ownsRow B e k v n xs) (hB : B ≤ W.heap.size) : Below B W w5 := by
  cases hv : v.ownBlock with
  | none => rw [hv] at h2; exact ⟨h2.os, h2.tape, h2.output, h2.size, fun i hi => h2.block i (by omega) (by simp)⟩
  | some q => rw [hv] at h2; exact below_grown h2 (ho.lt q hv).1 hB
theorem own_neT {w : World} {b n : Nat} {e : TypeId} {k : Nat} {v : Value} {xs : List Value} (h : w.ownsRow b e k v n xs) {p : Nat} (hp : p < b) : some p ≠ v.ownBlock := fun e => by
  have := (h.lt p e.symm).1
  omega

theorem own_noneT {w : World} {b n : Nat} {e : TypeId} {k c m : Nat} {xs : List Value} (h : w.ownsRow b e k (.slice none m c) n xs) : c = 0 ∧ n = 0 := by
  rcases h.2 with ⟨e, e0⟩ | ⟨g, cap, cur, e, _⟩
  · injection e with _ _ e3; exact ⟨e3, e0⟩
  · injection e with e1; cases e1

theorem own_six {w : World} {b n : Nat} {e : TypeId} {k : Nat} {v : Value} {xs : List Value} (h : w.ownsRow b e k v n xs) {p : Nat} (hp : p < b) (v0 v1 v2 v3 v4 v5 : Value) :
    ((((((w.setCell ⟨p, 0, none⟩ v0).setCell ⟨p, 1, none⟩ v1).setCell ⟨p, 2, none⟩ v2).setCell ⟨p, 3, none⟩ v3).setCell ⟨p, 4, none⟩ v4).setCell ⟨p, 5, none⟩ v5).ownsRow b e k v n xs :=
  h.kept (grownBy_trans (grownBy_trans (grownBy_trans (grownBy_trans (grownBy_trans (grownBy_setCellJ _ _ _ _) (grownBy_setCellJ _ _ _ _)) (grownBy_setCellJ _ _ _ _)) (grownBy_setCellJ _ _ _ _)) (grownBy_setCellJ _ _ _ _)) (grownBy_setCellJ _ _ _ _)) (.inr fun e => own_neT h hp e.symm)

def ints (l : List Int) : List Value := l.map (.int .i64)

/-- what Leaf gives -/
def LeafP (tok : Int) (x : Nd) (w : World) (e : Ending) (w' : World) : Prop :=
  Below w.heap.size w w' ∧ ((hasB tok x = false ∧ e = .returned (.tuple #[.slice none 0 0, .int .i64 4])) ∨
    (hasB tok x = true ∧ ∃ A c, e = .returned (.tuple #[.slice A (x.leafN tok).length c, .int .i64 0]) ∧ Rd w' w'.heap.size A (ints (x.leafN tok)) ∧ (A = none → c = 0 ∧ x.leafN tok = [])))

theorem leafN_len (tok : Int) : ∀ (k : Nat) (x : Nd), deepB k x.l = false → (x.leafN tok).length ≤ k
  | 0, .mk op s n f t A c l, h => by
    have := deepB_nil h
    simp only [Nd.l] at this
    subst this
    rw [Nd.leafN, leafL]; simp
  | k + 1, .mk op s n f t A c l, h => by
    rw [Nd.leafN]
    have hh : ∀ x ∈ l, deepB k x.l = false := deepB_part h
    clear h
    have : ∀ (l : List Nd) (i : Nat), (∀ x ∈ l, deepB k x.l = false) → (leafL tok i l).length ≤ k + 1 := by
      intro l
      induction l with
      | nil => intro i _; rw [leafL]; simp
      | cons x l ih =>
        intro i hl
        rw [leafL]
        split
        · have := leafN_len tok k x (hl x (by simp))
          simp; omega
        · exact ih _ fun y hy => hl y (by simp [hy])
    exact this l 0 hh

set_option maxHeartbeats 2000000 in
set_option maxRecDepth 100000 in
theorem leaf_any (tok : Int) (x : Nd) (w : World) (hd : deepB 299 x.l = false) (h : x.In w w.heap.size) :
    Calls Try.prog 23 #[x.val, .int .i64 tok] w (LeafP tok x w) := by
  obtain ⟨i0, hi, hz0, hz1, hz2⟩ := info_parts infoIntT
  have HH := Lib.hid h
  have HD := Lib.hid hd
  have T0 : Hid (NBlk ((w.alloc (.cells x.arr 24)).alloc (.cells #[.int .i64 tok] 3)) w.heap.size x) := (Blk.new w _ _).alloc _
  have T1 : Hid (Blk ((w.alloc (.cells x.arr 24)).alloc (.cells #[.int .i64 tok] 3)) (w.heap.size + 1) 3 #[.int .i64 tok]) := by
    have := Blk.new (w.alloc (.cells x.arr 24)) 3 #[.int .i64 tok]
    exact Lib.hid (by simpa using this)
  have T2 : Hid (Below w.heap.size w ((w.alloc (.cells x.arr 24)).alloc (.cells #[.int .i64 tok] 3))) := ((Below.refl _ _).alloc (Nat.le_refl _) _).alloc (by simp) _
  obtain ⟨W0, hW0⟩ : ∃ W0, W0 = ((w.alloc (.cells x.arr 24)).alloc (.cells #[.int .i64 tok] 3)) := ⟨_, rfl⟩
  have hsz : W0.heap.size = w.heap.size + 2 := by rw [hW0]; simp
  have cal := has_any tok (w.heap.size + 1) x W0 (by rw [hW0]; exact T1.out.cell 0)
  obtain ⟨q, hq⟩ : ∃ q, q = hasB tok x := ⟨_, rfl⟩
  rw [← hq] at cal
  have HQ := Lib.hid hq
  have HSZ := Lib.hid hsz
  rw [← hW0] at T0 T1 T2
  have HW0 := Lib.hid hW0
  have CAL := Lib.hid cal
  clear h hd hq hsz hW0 cal
  obtain ⟨op, s, n, f, t, A, c, l⟩ := x
  rw [Nd.val_mk] at CAL ⊢
  unfold Nd.arr at HW0
  go_enter Try.func23, Try.ntmps23
  go_wp2_with fail
  rw [← HW0.out]
  cases q with
  | false =>
    refine CAL.out.mono ?_
    rintro e w2 ⟨rfl, hb2⟩
    have HN : Hid (LeafP tok (.mk op s n f t A c l) w (.returned (.tuple #[.slice none 0 0, .int .i64 4])) w2) := ⟨T2.out.trans (hb2.mono (by rw [HSZ.out]; omega)), .inl ⟨HQ.out.symm, rfl⟩⟩
    clear T0 T1 T2 HW0 hb2 CAL HQ HSZ HH HD
    go_wp2_with fail
    go_ret2
    exact HN.out
  | true =>
    refine CAL.out.mono ?_
    rintro e w2 ⟨rfl, hb2⟩
    have S0 := Lib.hid (T0.out.below hb2 T0.out.lt)
    have S1 := Lib.hid (T1.out.below hb2 T1.out.lt)
    have S2 : Hid (Below w.heap.size w w2) := T2.out.trans (hb2.mono T2.out.size)
    have HSZ2 : Hid (w.heap.size + 2 ≤ w2.heap.size) := by unfold Hid; have := hb2.size; rw [HSZ.out] at this; exact this
    clear T0 T1 T2 hb2 CAL HW0 HSZ
    go_wp2_with fail
    go_loopg [7] 299 (fun k v wr => ∃ (y : Nd) (xs : List Int), Hid (deepB k y.l = false) ∧ xs.length + k ≤ 299 ∧ NBlk wr w.heap.size y ∧ Blk wr (w.heap.size + 1) 3 #[.int .i64 tok] ∧ wr.ownsRow (w.heap.size + 2) 3 1 v xs.length (ints xs) ∧ Hid (xs ++ y.leafN tok = (Nd.mk op s n f t A c l).leafN tok) ∧ Hid (y.In w w.heap.size) ∧ Below w.heap.size w wr ∧ Hid (w.heap.size + 2 ≤ wr.heap.size))
    case atStart => exact ⟨_, [], HD, by simp, S0.out, S1.out, World.ownsRow_nil _ _ _ _, by unfold Hid; simp, HH, S2.out, HSZ2⟩
    case round =>
      obtain ⟨y, xs, HDy, hk, b0, b1, hown, HXS, HY, hb, hs2⟩ := hrel
      obtain ⟨PA, pc, rfl⟩ := own_lenT hown
      obtain ⟨op1, s1, n1, f1, t1, A1, l1c, l1⟩ := y
      obtain ⟨c0, c1, c2, c3, c4, c5⟩ := b0.cells
      obtain ⟨e0, e1, e2, e3, e4, e5⟩ := b0.free
      have d0 := b1.cell 0
      simp at d0
      have cal := indexFunc_any tok (w.heap.size + 1) A1 l1c l1 wr d0 (HY.out.sl.below hb hb.size)
      have B0 := Lib.hid b0
      have B1 := Lib.hid b1
      have HO := Lib.hid hown
      have HB := Lib.hid hb
      have CAL := Lib.hid cal
      clear b0 b1 hown hb S0 S1 S2 HH HD cal
      go_wp2_with fail
      refine CAL.out.mono ?_
      rintro e w3 ⟨r, rfl, hr, hb3⟩
      have B0 := Lib.hid (B0.out.below hb3 B0.out.lt)
      have B1 := Lib.hid (B1.out.below hb3 B1.out.lt)
      have HO := Lib.hid (own_belowT HO.out hb3)
      have HB : Hid (Below w.heap.size w w3) := HB.out.trans (hb3.mono HB.out.size)
      have hs2 : Hid (w.heap.size + 2 ≤ w3.heap.size) := Nat.le_trans hs2.out hb3.size
      obtain ⟨c0, c1, c2, c3, c4, c5⟩ := B0.out.cells
      obtain ⟨e0, e1, e2, e3, e4, e5⟩ := B0.out.free
      clear hb3 CAL
      rcases hr with ⟨rfl, hnone⟩ | ⟨j, rfl, hj, hhit, hbefore⟩
      · have hN : xs = (Nd.mk op s n f t A c l).leafN tok := by
          rw [← HXS.out, Nd.leafN, leafL_none tok l1 0 hnone]; simp
        have HN : Hid (LeafP tok (.mk op s n f t A c l) w (.returned (.tuple #[.slice PA xs.length pc, .int .i64 0])) w3) := by
          unfold Hid
          refine ⟨HB.out, .inr ⟨HQ.out.symm, PA, pc, ?_, ?_, ?_⟩⟩
          · rw [hN]
          · rw [← hN]; exact Rd.of_own HO.out
          · rw [← hN]; intro e; subst e; have := own_noneT HO.out; exact ⟨this.1, by simpa using this.2⟩
        clear hN hnone HXS
        go_wp2_with fail
        go_ret2
        exact HN.out
      · have hl1 := HY.out.sl.2.1
        cases gk with
        | zero =>
          have := deepB_nil HDy.out
          simp only [Nd.l] at this
          subst this
          simp at hj
        | succ k =>
        have hdp := deepB_part HDy.out l1[j] (List.getElem_mem _)
        have hst : (Nd.mk op1 s1 n1 f1 t1 A1 l1c l1).leafN tok = ((j : Nat) : Int) :: l1[j].leafN tok := by
          rw [Nd.leafN, leafL_hit tok l1 0 j hj hbefore hhit, Nat.zero_add]
        have hin := HY.out.sl.2.2.mem l1[j] (List.getElem_mem _)
        have hcell := fun (W : World) (hW : Below w.heap.size w W) => (HY.out.sl.below hW (Nat.le_refl _)).at_ j hj
        clear hhit hbefore
        generalize l1[j] = y2 at *
        obtain ⟨op2, s2, n2, f2, t2, A2, l2c, l2⟩ := y2
        simp only [Nd.A, Nd.c, Nd.l, Nd.op, Nd.s, Nd.n, Nd.f, Nd.t] at hcell hdp
        have HCELL := Lib.hid hcell
        have HST := Lib.hid hst
        have HIN := Lib.hid hin
        have HDP := Lib.hid hdp
        have hjI : (j : Int) < (l1.length : Int) := by omega
        clear hcell hst hin hdp
        go_upto_region 9 with (at_builtin; go_loud (refine wpList_append_own _ rfl (.tmp 21) (.tmp 23) 25 rfl (w.heap.size + 2) 3 i0 _ 1 8 Try.underlying25 hi hz0 hz1 hz2 rfl (by decide) _ xs.length (ints xs) rfl (HO.out.alloc _) ⟨w3.heap.size, 0, none⟩ 1 1 [Value.int .i64 (j : Nat)] rfl rfl (cell_one_new _ _ _) (by simp [Value.oneCell']) (by unfold maxLen; omega) (by omega) (by have := hs2.out; simp; omega) ?_); intro v' w4 hown' hg _; obtain ⟨PA', pc', rfl⟩ := own_lenT hown'; have HO4 := Lib.hid hown'; have HG4 := Lib.hid hg; clear hown' hg)
        have hg := HG4.out
        have g0 := (B0.out.alloc _).kept hg (own_neT HO.out (by omega))
        have g1 := Blk.kept (B1.out.alloc _) hg (own_neT HO.out (by omega))
        have hb4 := (HB.out.alloc HB.out.size _).trans ((grow_belowT hg (HO.out.alloc _) (by have := hs2.out; simp; omega)).mono (by omega))
        have hs4 : w.heap.size + 2 ≤ w4.heap.size := Nat.le_trans (by have := hs2.out; simp; omega) hg.size
        obtain ⟨⟨c0, c1, c2, c3, c4, c5⟩, e0, e1, e2, e3, e4, e5⟩ := g0.all
        obtain ⟨b, off, rfl, hB, p0, p1, p2, p3, p4, p5, _⟩ := HCELL.out w4 hb4
        have bw : ¬ b = w.heap.size := by omega
        have hb5 := fun v0 v1 v2 v3 v4 v5 => below_six hb4 (Nat.le_refl _) v0 v1 v2 v3 v4 v5
        have HB5 := Lib.hid hb5
        have G0 := Lib.hid g0
        have G1 := Lib.hid g1
        have HS4 := Lib.hid hs4
        clear hg g0 g1 hb4 hs4 HCELL HO HB hs2 hb5 B0 B1
        go_wp2_with fail
        go_roundg k
        case measure => omega
        case rel =>
          refine ⟨.mk op2 s2 n2 f2 t2 A2 l2c l2, xs ++ [((j : Nat) : Int)], HDP, by simp; omega, NBlk.put G0.out rfl, ?_, ?_, ?_, HIN, HB5.out _ _ _ _ _ _, ?_⟩
          · exact (((((G1.out.other (by simp) _).other (by simp) _).other (by simp) _).other (by simp) _).other (by simp) _).other (by simp) _
          · have := own_six HO4.out (p := w.heap.size) (by omega) (.int .i64 op2) (.string s2) (.int .i64 n2) (.int .i64 f2) (.int .i64 t2) (.slice A2 l2.length l2c)
            simpa [ints] using this
          · unfold Hid
            rw [← HXS.out, HST.out]; simp
          · exact Nat.le_trans HS4.out (by simp)

end Go.Proofs.Ytcndfihcjaoifaa
