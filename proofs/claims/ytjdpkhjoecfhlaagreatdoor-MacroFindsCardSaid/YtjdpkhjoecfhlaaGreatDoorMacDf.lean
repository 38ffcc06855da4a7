/- Macro: the program's defineAs. Macro: the program's define, Define. -/
import Derived.Test.YtjdpkhjoecfhlaaGreatDoorMacRd
import Derived.Deep.DeepCutAuto
import Derived.Laws.ResultCell
import Derived.Test.YtjdpkhjoecfhlaaGreatDoorLexG
import Derived.Deep.QuietTactic
import Derived.BigQuiet

namespace Go.Proofs.YtjdpkhjoecfhlaaGreatDoor
open Go.RowKit Go.Maps Go.Shelf

theorem parG_suffix : ∀ (n : Nat) (acc : List ByteArray) (l : List Tk) (p : List ByteArray × List Tk), l.length ≤ n → parG acc l = some p → p.2 <:+ l
  | n, acc, [], p, _, h => by simp [parG] at h
  | n, acc, [a], p, _, h => by simp [parG] at h
  | 0, acc, a :: b :: r, p, hn, h => by simp at hn
  | n + 1, acc, a :: b :: r, p, hn, h => by
    have hs : r <:+ a :: b :: r := ⟨[a, b], rfl⟩
    rw [parG] at h
    split at h
    · split at h
      · injection h with h
        rw [← h]
        exact hs
      · split at h
        · cases h
        · exact (parG_suffix n _ r p (by simp at hn; omega) h).trans hs
    · cases h
theorem parL_suffix (l : List Tk) (p : List ByteArray × List Tk) (h : parL l = some p) : p.2 <:+ l := by
  cases l with
  | nil => simp [parL] at h
  | cons t r =>
    simp only [parL] at h
    split at h
    · injection h with h
      rw [← h]
      exact ⟨[t], rfl⟩
    · exact parG_suffix _ _ _ _ (Nat.le_refl _) h
theorem defP_suffix (l : List Tk) (p : List ByteArray × Bool × List Tk) (h : defP l = some p) : p.2.2 <:+ l := by
  cases l with
  | nil => simp [defP] at h; rw [← h]; exact List.suffix_refl _
  | cons t r =>
    simp only [defP] at h
    split at h
    · cases e : parL r with
      | none => rw [e] at h; cases h
      | some q =>
        rw [e] at h
        injection h with h
        rw [← h]
        exact (parL_suffix r q e).trans ⟨[t], rfl⟩
    · injection h with h
      rw [← h]
      exact List.suffix_refl _
theorem parG_len : ∀ (n : Nat) (acc : List ByteArray) (l : List Tk) (p : List ByteArray × List Tk), l.length ≤ n → parG acc l = some p → p.1.length ≤ acc.length + l.length
  | n, acc, [], p, _, h => by simp [parG] at h
  | n, acc, [a], p, _, h => by simp [parG] at h
  | 0, acc, a :: b :: r, p, hn, h => by simp at hn
  | n + 1, acc, a :: b :: r, p, hn, h => by
    rw [parG] at h
    split at h
    · split at h
      · injection h with h
        rw [← h]
        simp only [List.length_append, List.length_cons, List.length_nil]
        omega
      · split at h
        · cases h
        · have := parG_len n _ r p (by simp at hn; omega) h
          simp at this ⊢
          omega
    · cases h
theorem wat_below {w w' : World} {g o B : Nat} {l : List Tk} (h : WAt w g o l) (hg : g < B) (hb : Below B w w') : WAt w' g o l := fun i hi => by
  obtain ⟨e0, e1, e2, e3⟩ := h i hi
  exact ⟨(hb.cell (p := ⟨g, o + i * 4, none⟩) hg).trans e0, (hb.cell (p := ⟨g, o + i * 4 + 1, none⟩) hg).trans e1, (hb.cell (p := ⟨g, o + i * 4 + 2, none⟩) hg).trans e2, (hb.cell (p := ⟨g, o + i * 4 + 3, none⟩) hg).trans e3⟩
theorem own_set {w : World} {base k n b j : Nat} {e : TypeId} {v x : Value} {xs : List Value} (h : w.ownsRow base e k v n xs) (hne : ∀ q, v.ownBlock = some q → q ≠ b) : (w.setCell ⟨b, j, none⟩ x).ownsRow base e k v n xs := by
  refine h.kept (grownBy_setCellJ w b j x) ?_
  cases hv : v.ownBlock with
  | none => exact .inl rfl
  | some q => exact .inr fun e => hne q hv (by injection e)
theorem wat_rd {w : World} {g o : Nat} {l : List Tk} (h : WAt w g o l) (hg : g < w.heap.size) : TRd w w.heap.size (some ⟨g, o, none⟩) l := fun hl => by
  refine ⟨g, o, rfl, hg, fun j u hu => ?_⟩
  have hj : j < (cellsT l).length := (List.getElem?_eq_some_iff.1 hu).1
  rw [cellsT_length] at hj
  have hi : j / 4 < l.length := by omega
  obtain ⟨e0, e1, e2, e3⟩ := cellsT_get l (j / 4) hi
  obtain ⟨d0, d1, d2, d3⟩ := h (j / 4) hi
  have hm : j % 4 < 4 := Nat.mod_lt _ (by decide)
  have hd := Nat.div_add_mod j 4
  rcases (by omega : j % 4 = 0 ∨ j % 4 = 1 ∨ j % 4 = 2 ∨ j % 4 = 3) with e | e | e | e
  · rw [show j = j / 4 * 4 by omega] at hu ⊢; rw [e0] at hu; injection hu with hu; rw [← hu]; exact d0
  · rw [show j = j / 4 * 4 + 1 by omega] at hu ⊢; rw [e1] at hu; injection hu with hu; rw [← hu]; exact d1
  · rw [show j = j / 4 * 4 + 2 by omega] at hu ⊢; rw [e2] at hu; injection hu with hu; rw [← hu]; exact d2
  · rw [show j = j / 4 * 4 + 3 by omega] at hu ⊢; rw [e3] at hu; injection hu with hu; rw [← hu]; exact d3
theorem join_len (sep : List UInt8) (M : Nat) : ∀ l : List (List UInt8), (∀ x ∈ l, x.length ≤ M) → (Lib.join l sep).length ≤ l.length * (M + sep.length)
  | [], _ => by simp [Lib.join]
  | [x], h => by
    rw [Lib.join_one]
    have := h x (by simp)
    simp
    omega
  | x :: y :: r, h => by
    have ih := join_len sep M (y :: r) fun z hz => h z (by simp [hz])
    have hx := h x (by simp)
    have e : Lib.join (x :: y :: r) sep = x ++ sep ++ Lib.join (y :: r) sep := by simp [Lib.join, List.intercalate]
    rw [e, List.length_append, List.length_append]
    rw [show (x :: y :: r).length = (y :: r).length + 1 from rfl, Nat.succ_mul]
    omega
/-- a definition's body -/
def bodyB (d : Dfn) : ByteArray := ⟨(Lib.join (d.bw.map (·.data.toList)) [32]).toArray⟩
abbrev zeroA : Array Value := #[.string ⟨#[]⟩, .int .i64 0, .slice none 0 0, .bool false, .string ⟨#[]⟩, .bool false, .slice none 0 0]
def defT : List Tk → Bool
  | [] => false
  | t :: _ => oneOf t.k t.x openB && t.b.data.toList.isEmpty
theorem defP_yes (t : Tk) (r : List Tk) (h : defT (t :: r) = true) : defP (t :: r) = (parL r).map fun p => (p.1, true, p.2) := by
  simp only [defT, Bool.and_eq_true, List.isEmpty_iff] at h
  simp only [defP]
  rw [if_pos h]
theorem defP_no (l : List Tk) (h : defT l = false) : defP l = some ([], false, l) := by
  cases l with
  | nil => rfl
  | cons t r =>
    simp only [defP]
    rw [if_neg]
    intro g
    simp only [defT, g.1, g.2] at h
    cases h
def zeroD : Value := .agg zeroA
/-- what define gives -/
def DefR (B : Nat) (d : Option Dfn) (e : Ending) (w' : World) : Prop :=
  match d with
  | none => e = .returned (.tuple #[zeroD, .bool false])
  | some d => ∃ v A4 n4 c4, e = .returned (.tuple #[.agg #[.string d.nm, .int .i64 0, v, .bool d.fn, .string (bodyB d), .bool d.gone, .slice A4 n4 c4], .bool true]) ∧ w'.ownsRow B 9 1 v d.ps.length (d.ps.map Value.string)

set_option maxHeartbeats 8000000 in
set_option maxRecDepth 100000 in
theorem defineAs_any (nm : ByteArray) (g o c : Nat) (l : List Tk) (w : World) (hg : g < w.heap.size) (hl : l.length ≤ 30000) (hlc : l.length ≤ c) (hR : WAt w g o l) (hw : ∀ t ∈ l, WordOk t ∧ t.x.size ≤ 20001) :
    Calls Tryz.prog 135 #[.string nm, .slice (some ⟨g, o, none⟩) l.length c] w fun e w' => Below w.heap.size w w' ∧ DefR w.heap.size ((defP l).map fun p => (⟨nm, p.1, p.2.1, p.2.2.map Tk.x, false⟩ : Dfn)) e w' := by
  have HR := Lib.hid hR
  have HG := Lib.hid hg
  have HLC := Lib.hid hlc
  have HL := Lib.hid hl
  have HW := Lib.hid hw
  clear hR hg hl hw hlc
  obtain ⟨n, hn⟩ : ∃ n, n = l.length := ⟨_, rfl⟩
  rw [← hn]
  have HN := Lib.hid hn
  clear hn
  go_enter Tryz.func135, Tryz.ntmps135
  go_upto_region 2 with (fail)
  go_cut [26] (fun v26 wx => v26 = .bool (defT l) ∧ Hid (Blk wx w.heap.size 122 zeroA) ∧ Hid (Blk wx (w.heap.size + 1) 122 #[.string nm, .int .i64 0, .slice none 0 0, .bool false, .string ⟨#[]⟩, .bool false, .slice none 0 0]) ∧ Hid (Below w.heap.size w wx))
  case first =>
    have F : ∀ W, W = ((w.alloc (.cells zeroA 122)).alloc (.cells #[.string nm, .int .i64 0, .slice none 0 0, .bool false, .string ⟨#[]⟩, .bool false, .slice none 0 0] 122)) → Blk W w.heap.size 122 zeroA ∧ Blk W (w.heap.size + 1) 122 #[.string nm, .int .i64 0, .slice none 0 0, .bool false, .string ⟨#[]⟩, .bool false, .slice none 0 0] ∧ Below w.heap.size w W ∧ W.heap.size = w.heap.size + 1 + 1 := fun W e => by
      subst e
      refine ⟨(Blk.new w _ _).alloc _, ?_, ((Below.refl _ _).alloc (Nat.le_refl _) _).alloc (by simp) _, by simp⟩
      have := Blk.new (w.alloc (.cells zeroA 122)) 122 #[.string nm, .int .i64 0, .slice none 0 0, .bool false, .string ⟨#[]⟩, .bool false, .slice none 0 0]
      rw [show (w.alloc (.cells zeroA 122)).heap.size = w.heap.size + 1 by simp] at this
      exact this
    obtain ⟨f1, f2, f3, f4⟩ := F _ rfl
    have HF1 := Lib.hid f1
    have HF2 := Lib.hid f2
    have HF3 := Lib.hid f3
    have HF4 := Lib.hid f4
    clear f1 f2 f3 f4 F
    cases l with
    | nil =>
      obtain rfl : n = 0 := HN.out
      go_wp2_with fail
      go_meet
      exact ⟨rfl, HF1.out, HF2.out, HF3.out⟩
    | cons t r =>
      obtain ⟨tk, tb, tx, ta⟩ := t
      have R3 : ∀ W, Below w.heap.size w W → W.cell? ⟨g, o, none⟩ = some (.int .i64 tk) ∧ W.cell? ⟨g, o + 1, none⟩ = some (.string tb) ∧ W.cell? ⟨g, o + 2, none⟩ = some (.string tx) ∧ W.cell? ⟨g, o + 3, none⟩ = some (.int .i64 ta) := fun W hW => by
        obtain ⟨c0, c1, c2, c3⟩ := HR.out 0 (by simp)
        simp only [List.getElem_cons_zero, Nat.zero_mul, Nat.add_zero] at c0 c1 c2 c3
        exact ⟨(hW.cell (p := ⟨g, o, none⟩) HG.out).trans c0, (hW.cell (p := ⟨g, o + 1, none⟩) HG.out).trans c1, (hW.cell (p := ⟨g, o + 2, none⟩) HG.out).trans c2, (hW.cell (p := ⟨g, o + 3, none⟩) HG.out).trans c3⟩
      have HR3 := Lib.hid R3
      obtain ⟨x0, x1, x2, x3⟩ := R3 _ HF3.out
      have q0 : (0 : Int) < (n : Int) := by rw [HN.out, List.length_cons]; omega
      obtain ⟨d, hd⟩ : ∃ d, d = oneOf tk tx openB := ⟨_, rfl⟩
      have HI := fun (W : World) (q : Nat) (hq : W.heap.size = q) => isOneOf_any tk ta tb tx openB q 1 (W.alloc (.cells #[.string openB] 9)) (by simp; omega) (by subst hq; exact Blk.cell (Blk.new W _ _) 0)
      rw [← hd] at HI
      have HHI := Lib.hid HI
      have HD := Lib.hid hd
      clear HI hd R3
      go_wp2_with fail
      refine (HHI.out _ _ HF4.out).mono ?_
      rintro e w2 ⟨rfl, hb2⟩
      have hb3 := (((Below.refl _ _).alloc (Nat.le_refl _) _).trans (hb2.mono (by simp)) : Below _ _ w2)
      have g1 := HF1.out.below hb3 (by rw [HF4.out]; omega)
      have g2 := HF2.out.below hb3 (by rw [HF4.out]; omega)
      have g3 := HF3.out.trans (hb3.mono HF3.out.size)
      obtain ⟨x0, x1, x2, x3⟩ := HR3.out _ g3
      have HG1 := Lib.hid g1
      have HG2 := Lib.hid g2
      have HG3 := Lib.hid g3
      clear HF1 HF2 HF3 HF4 HHI hb2 hb3 g1 g2 g3 HR3
      cases d with
      | false =>
        have hT : Hid (defT (⟨tk, tb, tx, ta⟩ :: r) = false) := by unfold Hid; show (oneOf tk tx openB && tb.data.toList.isEmpty) = _; rw [← HD.out]; rfl
        clear HD
        go_wp2_with fail
        go_meet
        exact ⟨by rw [hT.out], HG1.out, HG2.out, HG3.out⟩
      | true =>
        cases hbt : tb.data.toList with
        | nil =>
          have hT : Hid (defT (⟨tk, tb, tx, ta⟩ :: r) = true) := by unfold Hid; show (oneOf tk tx openB && tb.data.toList.isEmpty) = _; rw [← HD.out, hbt]; rfl
          have ht : tb.toList.isEmpty = true := by rw [Lib.toList_data, hbt]; rfl
          clear HD hbt
          go_wp2_with fail
          go_meet
          exact ⟨by rw [hT.out], HG1.out, HG2.out, HG3.out⟩
        | cons b0 b1 =>
          have hT : Hid (defT (⟨tk, tb, tx, ta⟩ :: r) = false) := by unfold Hid; show (oneOf tk tx openB && tb.data.toList.isEmpty) = _; rw [← HD.out, hbt]; rfl
          have ht : tb.toList.isEmpty = false := by rw [Lib.toList_data, hbt]; rfl
          clear HD hbt
          go_wp2_with fail
          go_meet
          exact ⟨by rw [hT.out], HG1.out, HG2.out, HG3.out⟩
  case rest =>
    obtain ⟨rfl, hB4, hB6, hB⟩ := hcut
    obtain ⟨w0, hw0⟩ : ∃ x : World, x = wc := ⟨_, rfl⟩
    subst hw0
    go_upto_if 26 with (fail)
    go_cut [1] (fun v1 wx => ∃ o2 c2 ps fn r2 v, v1 = .slice (some ⟨g, o2, none⟩) r2.length c2 ∧ Hid (r2.length ≤ c2 ∧ defP l = some (ps, fn, r2)) ∧ Hid (WAt wx g o2 r2) ∧ Hid (wx.ownsRow w.heap.size 9 1 v ps.length (ps.map Value.string)) ∧ Hid (Blk wx w.heap.size 122 zeroA) ∧ Hid (Blk wx (w.heap.size + 1) 122 #[.string nm, .int .i64 0, v, .bool fn, .string ⟨#[]⟩, .bool false, .slice none 0 0]) ∧ Hid (Below w.heap.size w wx))
    case first =>
      cases hT : defT l with
      | false =>
        have hP := Lib.hid (defP_no l hT)
        clear hT
        go_wp2_with fail
        go_meet
        exact ⟨o, c, [], false, l, .slice none 0 0, by rw [HN.out], ⟨HLC.out, hP.out⟩, fun i h => by
          obtain ⟨e0, e1, e2, e3⟩ := HR.out i h
          exact ⟨(hB.out.cell (p := ⟨g, o + i * 4, none⟩) HG.out).trans e0, (hB.out.cell (p := ⟨g, o + i * 4 + 1, none⟩) HG.out).trans e1, (hB.out.cell (p := ⟨g, o + i * 4 + 2, none⟩) HG.out).trans e2, (hB.out.cell (p := ⟨g, o + i * 4 + 3, none⟩) HG.out).trans e3⟩, World.ownsRow_nil _ _ _ _, hB4.out, hB6.out, hB.out⟩
      | true =>
        cases l with
        | nil => cases hT
        | cons t r =>
          have HP := Lib.hid (defP_yes t r hT)
          have q1 : (1 : Int) ≤ (n : Int) := by have := HN.out; rw [List.length_cons] at this; omega
          have q2 : 1 ≤ c := by have := HN.out; have := HLC.out; rw [List.length_cons] at this; omega
          have hW2 : Hid (∀ W, Below w.heap.size w W → WAt W g (o + 4) r) := fun W hW i h => by
            obtain ⟨e0, e1, e2, e3⟩ := HR.out (i + 1) (by rw [List.length_cons]; omega)
            rw [show o + (i + 1) * 4 = o + 4 + i * 4 by omega] at e0 e1 e2 e3
            simp only [List.getElem_cons_succ] at e0 e1 e2 e3
            exact ⟨(hW.cell (p := ⟨g, o + 4 + i * 4, none⟩) HG.out).trans e0, (hW.cell (p := ⟨g, o + 4 + i * 4 + 1, none⟩) HG.out).trans e1, (hW.cell (p := ⟨g, o + 4 + i * 4 + 2, none⟩) HG.out).trans e2, (hW.cell (p := ⟨g, o + 4 + i * 4 + 3, none⟩) HG.out).trans e3⟩
          clear hT
          have x0 := hB6.out.cell 0
          have x1 := hB6.out.cell 1
          have x2 := hB6.out.cell 2
          have x3 := hB6.out.cell 3
          have x4 := hB6.out.cell 4
          have x5 := hB6.out.cell 5
          have x6 := hB6.out.cell 6
          simp at x0 x1 x2 x3 x4 x5 x6
          by_cases hc1 : c = 1
          · subst hc1
            have hr0 : r = [] := List.eq_nil_of_length_eq_zero (by have := HN.out; have := HLC.out; rw [List.length_cons] at *; omega)
            have HCC : Hid (Calls Tryz.prog 195 #[.slice (some ⟨g, o, none⟩) (n - 1 : Nat) 0] w0 fun e w' => Below w0.heap.size w0 w' ∧ ParP g w0.heap.size (parL r) e w') := by
              have h := readParams_any g o 0 [] w0 (by have := hB.out.size; have := HG.out; omega) (by simp) (by simp) (fun i h => absurd h (Nat.not_lt_zero _))
              have hn : n - 1 = 0 := by have := HN.out; rw [hr0] at this; simp at this; omega
              rw [hr0, hn]
              exact h
            clear hr0
            go_wp2_with fail
            refine HCC.out.mono ?_
            rintro e w2 ⟨hb2, hp⟩
            have HB2 := Lib.hid hb2
            have hG4 : Blk w2 w.heap.size 122 zeroA := hB4.out.below hb2 hB4.out.lt
            have hG6 := hB6.out.below hb2 hB6.out.lt
            have y3 := hG6.cell 3
            have y2 := hG6.cell 2
            have f2 := hG6.frozen 2
            have f3 := hG6.frozen 3
            have HG4 := Lib.hid hG4
            have HG6 := Lib.hid hG6
            simp at y2 y3
            have hbw := Lib.hid (hB.out.trans (hb2.mono hB.out.size))
            clear hb2 hG4 hG6
            cases hpl : parL r with
            | none =>
              rw [hpl] at hp
              have hn : Hid ((defP (t :: r)).map (fun p => (⟨nm, p.1, p.2.1, p.2.2.map Tk.x, false⟩ : Dfn)) = none) := by unfold Hid; rw [HP.out, hpl]; rfl
              have he : e = .returned (.tuple #[.slice none 0 0, .slice none 0 0, .bool false]) := hp
              clear hp hpl HP
              subst he
              have z0 := HG4.out.cell 0
              have z1 := HG4.out.cell 1
              have z2 := HG4.out.cell 2
              have z3 := HG4.out.cell 3
              have z4 := HG4.out.cell 4
              have z5 := HG4.out.cell 5
              have z6 := HG4.out.cell 6
              have k0 := HG4.out.frozen 0
              have k1 := HG4.out.frozen 1
              have k2 := HG4.out.frozen 2
              have k3 := HG4.out.frozen 3
              have k4 := HG4.out.frozen 4
              have k5 := HG4.out.frozen 5
              have k6 := HG4.out.frozen 6
              simp at z0 z1 z2 z3 z4 z5 z6
              clear x0 x1 x2 x3 x4 x5 x6
              go_wp2_with fail
              try simp only [Exit.inBlock, Exit.then]
              refine bodyPost_ret (v := .tuple #[zeroD, .bool false]) ?_ rfl ⟨?_, by rw [hn.out]; rfl⟩
              · rw [results_cell_tmp rfl]
                unfold zeroD zeroA
                go_simp
              · refine hbw.out.trans ?_
                exact ((((((((((Below.refl _ _).setCell (by simp) _).setCell (by simp) _).setCell (by simp) _).setCell (by simp) _).setCell (by simp) _).setCell (by simp) _).setCell (by simp) _).setCell (by simp) _).setCell (by simp) _)
            | some q =>
              obtain ⟨ps, r2⟩ := q
              rw [hpl] at hp
              obtain ⟨v, o2, c2, rfl, hO, hc2, hW3⟩ := hp
              obtain ⟨A3, ca3, rfl⟩ := own_len hO
              have hn : Hid (defP (t :: r) = some (ps, true, r2)) := by unfold Hid; rw [HP.out, hpl]; rfl
              have HO := Lib.hid hO
              have HC2 := Lib.hid hc2
              have HW3 := Lib.hid hW3
              clear hO hc2 hW3 hpl HP x0 x1 x2 x3 x4 x5 x6
              go_wp2_with fail
              go_meet
              refine ⟨o2, c2, ps, true, r2, .slice A3 ps.length ca3, rfl, ⟨HC2.out, hn.out⟩, ?_, ?_, ?_, ?_, ?_⟩
              · exact wat_below HW3.out HG.out (((Below.refl w.heap.size w2).setCell (by simp) _).setCell (by simp) _)
              · have hne : ∀ q, (Value.slice A3 ps.length ca3).ownBlock = some q → q ≠ w.heap.size + 1 := fun q e h => by have h1 := (HO.out.lt q e).1; have h2 := hB6.out.lt; omega
                exact own_baseL (own_set (own_set HO.out hne) hne) hB.out.size
              · exact (HG4.out.other (a := ⟨w.heap.size + 1, 2, none⟩) (by simp) _).other (a := ⟨w.heap.size + 1, 3, none⟩) (by simp) _
              · exact (HG6.out.set 2 _).set 3 _
              · exact (hbw.out.setCell (p := ⟨w.heap.size + 1, 2, none⟩) (by simp) _).setCell (p := ⟨w.heap.size + 1, 3, none⟩) (by simp) _
          · have q3 : 2 ≤ c := by omega
            have HCC : Hid (Calls Tryz.prog 195 #[.slice (some ⟨g, o + 4, none⟩) (n - 1 : Nat) (c - 1)] w0 fun e w' => Below w0.heap.size w0 w' ∧ ParP g w0.heap.size (parL r) e w') := by
              have h := readParams_any g (o + 4) (c - 1) r w0 (by have := hB.out.size; have := HG.out; omega) (by have := HL.out; rw [List.length_cons] at this; omega) (by have := HLC.out; rw [List.length_cons] at this; omega) (hW2.out _ hB.out)
              have hn : n - 1 = r.length := by have := HN.out; rw [List.length_cons] at this; omega
              rw [hn]
              exact h
            go_wp2_with fail
            refine HCC.out.mono ?_
            rintro e w2 ⟨hb2, hp⟩
            have HB2 := Lib.hid hb2
            have hG4 : Blk w2 w.heap.size 122 zeroA := hB4.out.below hb2 hB4.out.lt
            have hG6 := hB6.out.below hb2 hB6.out.lt
            have y3 := hG6.cell 3
            have y2 := hG6.cell 2
            have f2 := hG6.frozen 2
            have f3 := hG6.frozen 3
            have HG4 := Lib.hid hG4
            have HG6 := Lib.hid hG6
            simp at y2 y3
            have hbw := Lib.hid (hB.out.trans (hb2.mono hB.out.size))
            clear hb2 hG4 hG6
            cases hpl : parL r with
            | none =>
              rw [hpl] at hp
              have hn : Hid ((defP (t :: r)).map (fun p => (⟨nm, p.1, p.2.1, p.2.2.map Tk.x, false⟩ : Dfn)) = none) := by unfold Hid; rw [HP.out, hpl]; rfl
              have he : e = .returned (.tuple #[.slice none 0 0, .slice none 0 0, .bool false]) := hp
              clear hp hpl HP
              subst he
              have z0 := HG4.out.cell 0
              have z1 := HG4.out.cell 1
              have z2 := HG4.out.cell 2
              have z3 := HG4.out.cell 3
              have z4 := HG4.out.cell 4
              have z5 := HG4.out.cell 5
              have z6 := HG4.out.cell 6
              have k0 := HG4.out.frozen 0
              have k1 := HG4.out.frozen 1
              have k2 := HG4.out.frozen 2
              have k3 := HG4.out.frozen 3
              have k4 := HG4.out.frozen 4
              have k5 := HG4.out.frozen 5
              have k6 := HG4.out.frozen 6
              simp at z0 z1 z2 z3 z4 z5 z6
              clear x0 x1 x2 x3 x4 x5 x6
              go_wp2_with fail
              try simp only [Exit.inBlock, Exit.then]
              refine bodyPost_ret (v := .tuple #[zeroD, .bool false]) ?_ rfl ⟨?_, by rw [hn.out]; rfl⟩
              · rw [results_cell_tmp rfl]
                unfold zeroD zeroA
                go_simp
              · refine hbw.out.trans ?_
                exact ((((((((((Below.refl _ _).setCell (by simp) _).setCell (by simp) _).setCell (by simp) _).setCell (by simp) _).setCell (by simp) _).setCell (by simp) _).setCell (by simp) _).setCell (by simp) _).setCell (by simp) _)
            | some q =>
              obtain ⟨ps, r2⟩ := q
              rw [hpl] at hp
              obtain ⟨v, o2, c2, rfl, hO, hc2, hW3⟩ := hp
              obtain ⟨A3, ca3, rfl⟩ := own_len hO
              have hn : Hid (defP (t :: r) = some (ps, true, r2)) := by unfold Hid; rw [HP.out, hpl]; rfl
              have HO := Lib.hid hO
              have HC2 := Lib.hid hc2
              have HW3 := Lib.hid hW3
              clear hO hc2 hW3 hpl HP x0 x1 x2 x3 x4 x5 x6
              go_wp2_with fail
              go_meet
              refine ⟨o2, c2, ps, true, r2, .slice A3 ps.length ca3, rfl, ⟨HC2.out, hn.out⟩, ?_, ?_, ?_, ?_, ?_⟩
              · exact wat_below HW3.out HG.out (((Below.refl w.heap.size w2).setCell (by simp) _).setCell (by simp) _)
              · have hne : ∀ q, (Value.slice A3 ps.length ca3).ownBlock = some q → q ≠ w.heap.size + 1 := fun q e h => by have h1 := (HO.out.lt q e).1; have h2 := hB6.out.lt; omega
                exact own_baseL (own_set (own_set HO.out hne) hne) hB.out.size
              · exact (HG4.out.other (a := ⟨w.heap.size + 1, 2, none⟩) (by simp) _).other (a := ⟨w.heap.size + 1, 3, none⟩) (by simp) _
              · exact (HG6.out.set 2 _).set 3 _
              · exact (hbw.out.setCell (p := ⟨w.heap.size + 1, 2, none⟩) (by simp) _).setCell (p := ⟨w.heap.size + 1, 3, none⟩) (by simp) _
    case rest =>
      clear hB4 hB6 hB
      obtain ⟨o2, c2, ps, fn, r2, v, rfl, hq, hW2, hO, hB4, hB6, hB⟩ := hcut
      obtain ⟨wq, hwq⟩ : ∃ x : World, x = wc := ⟨_, rfl⟩
      subst hwq
      have hsuf := defP_suffix _ _ hq.out.2
      have hlen : r2.length ≤ 30000 := by have := hsuf.length_le; have := HL.out; simp only at *; omega
      have hgood : ∀ t ∈ r2, WordOk t ∧ t.x.size ≤ 20001 := fun t ht => HW.out t (hsuf.subset ht)
      have hkeep : stripL r2 = r2.map Tk.x := by unfold stripL; rw [keep_words r2 fun t ht => (hgood t ht).1]
      have hgq : g < wq.heap.size := Nat.lt_of_lt_of_le HG.out hB.out.size
      have HS := strip_any (some ⟨g, o2, none⟩) c2 r2 wq (by omega) (wat_rd hW2.out hgq)
      unfold stripV at HS
      rw [hkeep, List.length_map] at HS
      have hbnd : (Lib.join ((r2.map Tk.x).map (·.data.toList)) [32]).length ≤ 140737488355328 := by
        have h := join_len [32] 20001 ((r2.map Tk.x).map (·.data.toList)) fun x hx => by
          obtain ⟨y, hy, rfl⟩ := List.mem_map.1 hx
          obtain ⟨t, ht, rfl⟩ := List.mem_map.1 hy
          have := (hgood t ht).2
          simpa using this
        rw [List.length_map, List.length_map] at h
        have h2 : r2.length * (20001 + [32].length) ≤ 30000 * 20002 := Nat.mul_le_mul hlen (by simp)
        omega
      obtain ⟨bd, hbd⟩ : ∃ bd : ByteArray, bd = ⟨(Lib.join ((r2.map Tk.x).map (·.data.toList)) [32]).toArray⟩ := ⟨_, rfl⟩
      have HBD := Lib.hid hbd
      have HBD2 := Lib.hid hbd
      have HHS := Lib.hid HS
      have HLEN := Lib.hid hlen
      have HBND := Lib.hid hbnd
      clear HS hsuf hlen hgood hkeep hgq hbd hbnd HW
      go_wp2_with fail
      refine HHS.out.mono ?_
      rintro e w2 ⟨vw, rfl, hOw, hb2⟩
      obtain ⟨A4, c4, rfl⟩ := own_len hOw
      have hO2 := own_belowD hO.out hb2
      have hG4 : Blk w2 w.heap.size 122 zeroA := hB4.out.below hb2 hB4.out.lt
      have hG6 := hB6.out.below hb2 hB6.out.lt
      have y6 := hG6.cell 6
      have f6 := hG6.frozen 6
      simp at y6
      have HG4 := Lib.hid hG4
      have HG6 := Lib.hid hG6
      have hbw := Lib.hid (hB.out.trans (hb2.mono hB.out.size))
      have HO2 := Lib.hid hO2
      have HOw := Lib.hid hOw
      have HSZ := Lib.hid hb2.size
      have HLT6 := Lib.hid hB6.out.lt
      clear hb2 hG4 hG6 hO2 hOw hO hB4 hB6 hB HHS
      have HJ : Hid (∀ W3, W3 = w2.setCell ⟨w.heap.size + 1, 6, none⟩ (.slice A4 r2.length c4) → Calls Tryz.prog 197 #[.slice A4 r2.length c4, .string ⟨#[32]⟩] W3 fun e w' => e = .returned (.string bd) ∧ Below W3.heap.size W3 w') := fun W3 hW3 => by
        cases r2 with
        | nil =>
          refine (Tryz.strings_Join_none A4 c4 ⟨#[32]⟩ W3).mono ?_
          rintro e w' ⟨rfl, rfl⟩
          exact ⟨by rw [HBD.out]; rfl, Below.refl _ _⟩
        | cons t r =>
          obtain ⟨g', cap', e, hgb, hglt⟩ := HOw.out.form (by simp)
          injection e with e1 e2 e3
          subst e1
          subst e3
          have hcap : (t :: r).length ≤ c4 := by
            rcases HOw.out.2 with ⟨e, _⟩ | ⟨g2, cap, cur, e, _, _, h1, h2, _⟩
            · cases e
            · injection e with e4 e5 e6
              subst e6
              exact h1
          have h := Tryz.strings_Join g' 0 c4 ((t :: r).map Tk.x) ⟨#[32]⟩ W3 (fun j x hx => by
            have KW := own_set (b := w.heap.size + 1) (j := 6) (x := .slice (some ⟨g', 0, none⟩) (t :: r).length c4) HOw.out (fun q e h => by have e2 : g' = q := Option.some.inj e; have := HLT6.out; have h3 := hgb; omega)
            rw [hW3]
            have hj : j < (t :: r).length := by have := (List.getElem?_eq_some_iff.1 hx).1; rwa [List.length_map] at this
            rw [Nat.zero_add, KW.cellAt j (by simpa using hj), List.getElem?_map, hx]
            rfl) (by rw [hW3]; simpa using hglt) (by rw [List.length_map]; have := HLEN.out; omega) (by rw [List.length_map]; exact hcap) HBND.out
          rw [List.length_map] at h
          rw [HBD.out]
          exact h
      have K4 := HG4.out.other (a := ⟨w.heap.size + 1, 6, none⟩) (by simp) (.slice A4 r2.length c4)
      have K6 := HG6.out.set 6 (.slice A4 r2.length c4)
      have KO := own_set (j := 6) (x := .slice A4 r2.length c4) HO2.out (b := w.heap.size + 1) (fun q e h => by
        subst h
        obtain ⟨cur, hcur⟩ := own_typeL HO2.out e
        have h2 : w2.heap[w.heap.size + 1]? = _ := HG6.out
        rw [hcur] at h2
        injection h2 with h2
        injection h2 with _ h2
        exact absurd h2 (by decide))
      have KB := hbw.out.setCell (p := ⟨w.heap.size + 1, 6, none⟩) (by simp) (.slice A4 r2.length c4)
      simp at K6
      have HK4 := Lib.hid K4
      have HK6 := Lib.hid K6
      have HKO := Lib.hid KO
      have HKB := Lib.hid KB
      clear K4 K6 KO KB HG4 HG6 HO2 hbw
      go_wp2_with fail
      refine (HJ.out _ rfl).mono ?_
      rintro e w5 ⟨rfl, hb5⟩
      have N4 := HK4.out.below hb5 HK4.out.lt
      have N6 := HK6.out.below hb5 HK6.out.lt
      have NO := own_belowD HKO.out hb5
      have NB := HKB.out.trans (hb5.mono HKB.out.size)
      clear hb5 HJ HK4 HK6 HKO HKB y6 f6 HBND HBD
      obtain ⟨A5, ca5, rfl⟩ := own_len NO
      have y0 := N6.cell 0
      have y1 := N6.cell 1
      have y2 := N6.cell 2
      have y3 := N6.cell 3
      have y4 := N6.cell 4
      have y5 := N6.cell 5
      have y6 := N6.cell 6
      have f4 := N6.frozen 4
      simp at y0 y1 y2 y3 y4 y5 y6
      have z0 := N4.cell 0
      have z1 := N4.cell 1
      have z2 := N4.cell 2
      have z3 := N4.cell 3
      have z4 := N4.cell 4
      have z5 := N4.cell 5
      have z6 := N4.cell 6
      have k0 := N4.frozen 0
      have k1 := N4.frozen 1
      have k2 := N4.frozen 2
      have k3 := N4.frozen 3
      have k4 := N4.frozen 4
      have k5 := N4.frozen 5
      have k6 := N4.frozen 6
      simp at z0 z1 z2 z3 z4 z5 z6
      have HN4 := Lib.hid N4
      have HN6 := Lib.hid N6
      have HNO := Lib.hid NO
      have HNB := Lib.hid NB
      clear N4 N6 NO NB
      go_wp2_with fail
      try simp only [Exit.inBlock, Exit.then]
      refine bodyPost_ret (v := .tuple #[.agg #[.string nm, .int .i64 0, .slice A5 ps.length ca5, .bool fn, .string bd, .bool false, .slice A4 r2.length c4], .bool true]) ?_ rfl ⟨?_, ?_⟩
      · rw [results_cell_tmp rfl]
        go_simp
      · refine HNB.out.trans ?_
        exact (((((((((Below.refl _ _).setCell (by simp) _).setCell (by simp) _).setCell (by simp) _).setCell (by simp) _).setCell (by simp) _).setCell (by simp) _).setCell (by simp) _).setCell (by simp) _)
      · rw [hq.out.2]
        have ne4 : ∀ q, (Value.slice A5 ps.length ca5).ownBlock = some q → q ≠ w.heap.size := fun q e h => by
          subst h
          obtain ⟨cur, hcur⟩ := own_typeL HNO.out e
          have h2 : w5.heap[w.heap.size]? = _ := HN4.out
          rw [hcur] at h2
          injection h2 with h2
          injection h2 with _ h2
          exact absurd h2 (by decide)
        have ne6 : ∀ q, (Value.slice A5 ps.length ca5).ownBlock = some q → q ≠ w.heap.size + 1 := fun q e h => by
          subst h
          obtain ⟨cur, hcur⟩ := own_typeL HNO.out e
          have h2 : w5.heap[w.heap.size + 1]? = _ := HN6.out
          rw [hcur] at h2
          injection h2 with h2
          injection h2 with _ h2
          exact absurd h2 (by decide)
        refine ⟨.slice A5 ps.length ca5, A4, r2.length, c4, ?_, own_set (own_set (own_set (own_set (own_set (own_set (own_set (own_set HNO.out ne6) ne4) ne4) ne4) ne4) ne4) ne4) ne4⟩
        rw [HBD2.out]
        rfl

end Go.Proofs.YtjdpkhjoecfhlaaGreatDoor

namespace Go.Proofs.YtjdpkhjoecfhlaaGreatDoor
open Go.RowKit Go.Maps Go.Shelf

theorem rd_wat {w : World} {B g : Nat} {l : List Tk} (h : TRd w B (some ⟨g, 0, none⟩) l) : WAt w g 0 l := fun i hi => by
  obtain ⟨b, off, e, hB, d0, d1, d2, d3⟩ := h.at_ i hi
  cases e
  exact ⟨d0, d1, d2, d3⟩
theorem wat_tail {w : World} {g o : Nat} {t : Tk} {l : List Tk} (h : WAt w g o (t :: l)) : WAt w g (o + 4) l := fun i hi => by
  have := h (i + 1) (by rw [List.length_cons]; omega)
  rw [show o + (i + 1) * 4 = o + 4 + i * 4 by omega] at this
  simpa using this
theorem wat_head {w : World} {g o : Nat} {t : Tk} {l : List Tk} (h : WAt w g o (t :: l)) : w.cell? ⟨g, o, none⟩ = some (.int .i64 t.k) ∧ w.cell? ⟨g, o + 1, none⟩ = some (.string t.b) ∧ w.cell? ⟨g, o + 2, none⟩ = some (.string t.x) ∧ w.cell? ⟨g, o + 3, none⟩ = some (.int .i64 t.a) := by
  have := h 0 (by simp)
  simpa using this
theorem rd_lt {w : World} {B g : Nat} {t : Tk} {l : List Tk} (h : TRd w B (some ⟨g, 0, none⟩) (t :: l)) : g < B := by
  obtain ⟨b, off, e, hB, _⟩ := h.at_ 0 (by simp)
  cases e
  exact hB
theorem words_size (x : ByteArray) (hx : x.size ≤ 20001) : (wordsL x).length ≤ 20001 ∧ ∀ t ∈ wordsL x, t.x.size ≤ 20001 := by
  have hl : x.data.toList.length = x.size := by simp
  constructor
  · have h := dir_len _ 0 (x.data.toList.drop 1) (Nat.lt_succ_self _)
    unfold wordsL
    rw [List.length_dropLast]
    rw [List.length_drop] at h
    omega
  · obtain ⟨L, hL⟩ : ∃ L, L = x.extract 1 x.size := ⟨_, rfl⟩
    have hLl : L.data.toList = x.data.toList.drop 1 := by rw [hL, Lib.extract_to_end]
    have hLs : L.size ≤ 20001 := by
      have h1 : L.data.toList.length = L.size := by simp
      rw [hLl, List.length_drop, hl] at h1
      omega
    intro t ht
    have ht2 : t ∈ dirR 0 (L.data.toList.drop 0) := by
      rw [List.drop_zero, hLl]
      exact List.dropLast_subset _ ht
    obtain ⟨P, _, hP⟩ := laid_dirR L L.size 0 (by omega) (by omega)
    obtain ⟨j, hj, rfl⟩ := List.getElem_of_mem ht2
    rw [hP.x j hj, ByteArray.size_extract]
    omega

def defW (x : ByteArray) (gone : Bool) : Option Dfn := dfnW gone (wordsL x)

set_option maxHeartbeats 8000000 in
set_option maxRecDepth 100000 in
theorem define_any (n0 : Nat) (k a : Int) (b x : ByteArray) (w : World) (hG : LexG n0 w) (hx : x.size ≤ 20001) :
    Calls Tryz.prog 87 #[.agg #[.int .i64 k, .string b, .string x, .int .i64 a]] w fun e w' => Below w.heap.size w w' ∧ DefR w.heap.size (dfnB k x) e w' := by
  have hb1 : Below w.heap.size w (w.alloc (.cells #[.int .i64 k, .string b, .string x, .int .i64 a] 29)) := (Below.refl _ _).alloc (Nat.le_refl _) _
  obtain ⟨W0, hW0⟩ : ∃ W0, W0 = (w.alloc (.cells #[.int .i64 k, .string b, .string x, .int .i64 a] 29)).alloc (.cells zeroA 122) := ⟨_, rfl⟩
  have KO := kind_any n0 k a b x W0 (by rw [hW0]; exact hG.below (((Below.refl _ _).alloc (Nat.le_refl _) _).alloc (by simp) _)) hx
  obtain ⟨K, hK⟩ : ∃ K, K = kindB k x := ⟨_, rfl⟩
  rw [← hK] at KO
  have hd : dfnB k x = if K = defineBs then defW x false else if K = undefBs then defW x true else none := by rw [hK]; rfl
  have F1 : Blk W0 w.heap.size 29 #[.int .i64 k, .string b, .string x, .int .i64 a] := by rw [hW0]; exact (Blk.new w _ _).alloc _
  have F2 : Blk W0 (w.heap.size + 1) 122 zeroA := by
    have := Blk.new (w.alloc (.cells #[.int .i64 k, .string b, .string x, .int .i64 a] 29)) 122 zeroA
    rw [show (w.alloc (.cells #[.int .i64 k, .string b, .string x, .int .i64 a] 29)).heap.size = w.heap.size + 1 by simp] at this
    rw [hW0]
    exact this
  have F3 : Below w.heap.size w W0 := by rw [hW0]; exact hb1.alloc (by simp) _
  obtain ⟨D, hDD⟩ : ∃ D, D = dfnB k x := ⟨_, rfl⟩
  rw [← hDD]
  have HD := Lib.hid (hDD.trans hd)
  clear hDD
  have HKO := Lib.hid KO
  have HF1 := Lib.hid F1
  have HF2 := Lib.hid F2
  have HF3 := Lib.hid F3
  have HKK := Lib.hid hK
  have HW0 := Lib.hid hW0
  have HGG := Lib.hid hG
  clear KO F1 F2 F3 hK hd hb1 hW0 hG
  go_enter Tryz.func87, Tryz.ntmps87
  go_upto_region 1 with (fail)
  rw [← HW0.out]
  have x0 := HF1.out.cell 0
  have x1 := HF1.out.cell 1
  have x2 := HF1.out.cell 2
  have x3 := HF1.out.cell 3
  simp at x0 x1 x2 x3
  go_wp2_with fail
  refine HKO.out.mono ?_
  rintro e w2 ⟨rfl, hb2⟩
  have B4a := HF2.out.below hb2 HF2.out.lt
  have BWa := HF3.out.trans (hb2.mono HF3.out.size)
  have y0 := (HF1.out.below hb2 HF1.out.lt).cell 0
  have y1 := (HF1.out.below hb2 HF1.out.lt).cell 1
  have y2 := (HF1.out.below hb2 HF1.out.lt).cell 2
  have y3 := (HF1.out.below hb2 HF1.out.lt).cell 3
  simp at y0 y1 y2 y3
  have HGW := Lib.hid (HGG.out.below BWa)
  have B4 := Lib.hid B4a
  have BW := Lib.hid BWa
  clear hb2 B4a BWa x0 x1 x2 x3 HKO HGG HF1 HF2 HF3
  by_cases hD : K = defineBs
  · obtain ⟨hk7, hhd⟩ := kindB_line k x (HKK.out ▸ .inl hD)
    subst hk7
    have HWO := Lib.hid (words_ok n0 a b x w2 HGW.out hx hhd)
    have HWS := Lib.hid (words_size x hx)
    have HGD := Lib.hid (words_good x)
    have HDW : Hid (D = dfnW false (wordsL x)) := by unfold Hid; rw [HD.out]; rw [if_pos hD]; rfl
    subst hD
    unfold defineBs at *
    clear hhd hx HGW HKK HD
    go_wp2_with fail
    refine HWO.out.mono ?_
    rintro e w3 ⟨g, cap, rfl, hc1, hc2, hg, hR, hb3⟩
    have hRW := rd_wat hR
    have HRL := Lib.hid hR
    have BW3 : Hid (Below w.heap.size w w3) := BW.out.trans (hb3.mono BW.out.size)
    have B43 : Hid (Blk w3 (w.heap.size + 1) 122 zeroA) := B4.out.below hb3 B4.out.lt
    clear y0 y1 y2 y3 hR hb3 HWO BW B4
    have BW := Lib.hid BW3.out
    have B4 := Lib.hid B43.out
    clear BW3 B43
    cases hw : wordsL x with
    | nil =>
      have HN : Hid (D = none) := by unfold Hid; rw [HDW.out, hw]; rfl
      clear hRW HRL hc1 hc2 hg HWS HGD HDW hw
      have z0 := B4.out.cell 0
      have z1 := B4.out.cell 1
      have z2 := B4.out.cell 2
      have z3 := B4.out.cell 3
      have z4 := B4.out.cell 4
      have z5 := B4.out.cell 5
      have z6 := B4.out.cell 6
      have k0 := B4.out.frozen 0
      have k1 := B4.out.frozen 1
      have k2 := B4.out.frozen 2
      have k3 := B4.out.frozen 3
      have k4 := B4.out.frozen 4
      have k5 := B4.out.frozen 5
      have k6 := B4.out.frozen 6
      simp at z0 z1 z2 z3 z4 z5 z6
      go_wp2_with fail
      try simp only [Exit.inBlock, Exit.then]
      refine bodyPost_ret (v := .tuple #[zeroD, .bool false]) ?_ rfl ⟨?_, ?_⟩
      · rw [results_cell_tmp rfl]
        unfold zeroD zeroA
        go_simp
      · refine BW.out.trans ?_
        exact (((((((Below.refl _ _).setCell (by simp) _).setCell (by simp) _).setCell (by simp) _).setCell (by simp) _).setCell (by simp) _).setCell (by simp) _).setCell (by simp) _
      · rw [HN.out]
        rfl
    | cons t0 r0 =>
      cases r0 with
      | nil =>
        have HN : Hid (D = none) := by unfold Hid; rw [HDW.out, hw]; rfl
        clear hRW HRL hc1 hc2 hg HWS HGD HDW hw
        have z0 := B4.out.cell 0
        have z1 := B4.out.cell 1
        have z2 := B4.out.cell 2
        have z3 := B4.out.cell 3
        have z4 := B4.out.cell 4
        have z5 := B4.out.cell 5
        have z6 := B4.out.cell 6
        have k0 := B4.out.frozen 0
        have k1 := B4.out.frozen 1
        have k2 := B4.out.frozen 2
        have k3 := B4.out.frozen 3
        have k4 := B4.out.frozen 4
        have k5 := B4.out.frozen 5
        have k6 := B4.out.frozen 6
        simp at z0 z1 z2 z3 z4 z5 z6
        go_wp2_with fail
        try simp only [Exit.inBlock, Exit.then]
        refine bodyPost_ret (v := .tuple #[zeroD, .bool false]) ?_ rfl ⟨?_, ?_⟩
        · rw [results_cell_tmp rfl]
          unfold zeroD zeroA
          go_simp
        · refine BW.out.trans ?_
          exact (((((((Below.refl _ _).setCell (by simp) _).setCell (by simp) _).setCell (by simp) _).setCell (by simp) _).setCell (by simp) _).setCell (by simp) _).setCell (by simp) _
        · rw [HN.out]
          rfl
      | cons t1 r =>
        have hgl : g < w3.heap.size := by have h := HRL.out; rw [hw] at h; exact rd_lt h
        rw [hw] at hRW hc1
        obtain ⟨c0, c1, c2, c3⟩ := wat_head (wat_tail hRW)
        have hW8 := Lib.hid (wat_tail (wat_tail hRW))
        have HWd := Lib.hid (show D = dfnW false (t0 :: t1 :: r) by rw [HDW.out, hw])
        have HWS2 := HWS.out
        rw [hw] at HWS2
        have hr30 : r.length ≤ 30000 := by have := HWS2.1; simp only [List.length_cons] at this; omega
        have HGR : Hid (∀ t ∈ r, WordOk t ∧ t.x.size ≤ 20001) := fun t ht => by
          have hm : t ∈ wordsL x := by rw [hw]; simp [ht]
          exact ⟨HGD.out t hm, HWS.out.2 t hm⟩
        have HR30 := Lib.hid hr30
        obtain ⟨n, hn⟩ : ∃ n, n = (t0 :: t1 :: r).length := ⟨_, rfl⟩
        rw [← hn] at hc1 ⊢
        have HNR : Hid (r.length = n - 2) := by unfold Hid; rw [hn, List.length_cons, List.length_cons]; omega
        have hn2 : 2 ≤ n := by rw [hn, List.length_cons, List.length_cons]; omega
        have q2 : ¬ (n : Int) < 2 := by omega
        have q3 : (1 : Int) < (n : Int) := by omega
        have q4 : (2 : Int) ≤ (n : Int) := by omega
        have q5 : 2 ≤ cap := by omega
        have HGL := Lib.hid hgl
        have HCP := Lib.hid hc1
        obtain ⟨t1k, t1b, t1x, t1a⟩ := t1
        simp only at c0 c1 c2 c3
        clear hn hw hRW HRL HWS HWS2 HGD HDW hr30 hc2 hg hgl
        by_cases hk1 : t1k = 1
        · subst hk1
          go_upto_region 7 with (fail)
          go_cut [7, 8] (fun v7 v8 wx => v7 = .string t1x ∧ ∃ o2 c2, v8 = .slice (some ⟨g, o2, none⟩) r.length c2 ∧ r.length ≤ c2 ∧ Hid (WAt wx g o2 r) ∧ Hid (g < wx.heap.size) ∧ Hid (Blk wx (w.heap.size + 1) 122 zeroA) ∧ Hid (Below w.heap.size w wx))
          case first =>
            by_cases hc2 : cap = 2
            · have hr0 : r = [] := List.eq_nil_of_length_eq_zero (by have := HNR.out; have := HCP.out; omega)
              have HR0 := Lib.hid hr0
              clear hr0
              subst hc2
              go_wp2_with fail
              go_region
              all_goals go_wp2_with fail
              all_goals go_meet
              all_goals exact ⟨rfl, 0, 0, by rw [HR0.out]; rfl, by rw [HR0.out]; exact Nat.le_refl _, by rw [HR0.out]; exact fun i h => absurd h (Nat.not_lt_zero _), HGL.out, B4.out.drewN 1, BW.out.drew⟩
            · have q6 : 3 ≤ cap := by omega
              go_wp2_with fail
              go_region
              all_goals go_wp2_with fail
              all_goals go_meet
              all_goals exact ⟨rfl, 8, cap - 2, by rw [HNR.out], by rw [HNR.out]; have := HCP.out; omega, hW8.out, HGL.out, B4.out.drewN 1, BW.out.drew⟩
          case rest =>
            clear BW B4
            obtain ⟨rfl, o2, c4, rfl, hc4, hW9, hg9, B4, BW⟩ := hcut
            obtain ⟨w4, hw4⟩ : ∃ x : World, x = wc := ⟨_, rfl⟩
            subst hw4
            clear c0 c1 c2 c3 q2 q3 q4 q5 hn2 hc1 HNR HCP HGL hW8
            have HN : Hid (D = (defP r).map fun p => (⟨t1x, p.1, p.2.1, p.2.2.map Tk.x, false⟩ : Dfn)) := by unfold Hid; rw [HWd.out]; simp [dfnW]
            have HDA := Lib.hid (defineAs_any t1x g o2 c4 r w4 hg9.out HR30.out hc4 hW9.out HGR.out)
            clear hc4 HWd HR30 HGR hW9
            go_wp2_with fail
            refine HDA.out.mono ?_
            rintro e w5 ⟨hb5, hr⟩
            have M4 : Hid (Blk w5 (w.heap.size + 1) 122 zeroA) := B4.out.below hb5 B4.out.lt
            have MW : Hid (Below w.heap.size w w5) := BW.out.trans (hb5.mono BW.out.size)
            have HSZ := Lib.hid BW.out.size
            clear HDA B4 BW hb5
            have z0 := M4.out.cell 0
            have z1 := M4.out.cell 1
            have z2 := M4.out.cell 2
            have z3 := M4.out.cell 3
            have z4 := M4.out.cell 4
            have z5 := M4.out.cell 5
            have z6 := M4.out.cell 6
            have k0 := M4.out.frozen 0
            have k1 := M4.out.frozen 1
            have k2 := M4.out.frozen 2
            have k3 := M4.out.frozen 3
            have k4 := M4.out.frozen 4
            have k5 := M4.out.frozen 5
            have k6 := M4.out.frozen 6
            simp at z0 z1 z2 z3 z4 z5 z6
            rw [← HN.out] at hr
            clear HN
            cases D with
            | none =>
              have he : e = .returned (.tuple #[zeroD, .bool false]) := hr
              subst he
              unfold zeroD
              clear hr
              go_wp2_with fail
              try simp only [Exit.inBlock, Exit.then]
              refine bodyPost_ret (v := .tuple #[zeroD, .bool false]) ?_ rfl ⟨?_, rfl⟩
              · rw [results_cell_tmp rfl]
                unfold zeroD zeroA
                go_simp
              · refine MW.out.trans ?_
                exact (((((((Below.refl _ _).setCell (by simp) _).setCell (by simp) _).setCell (by simp) _).setCell (by simp) _).setCell (by simp) _).setCell (by simp) _).setCell (by simp) _
            | some d =>
              obtain ⟨v, A6, n6, c6, rfl, hO⟩ := hr
              obtain ⟨A5, ca5, rfl⟩ := own_len hO
              have HO := Lib.hid hO
              clear hO
              obtain ⟨dnm, dps, dfn, dbw, dgn⟩ := d
              simp only at HO
              obtain ⟨bd, hbd⟩ : ∃ bd, bd = bodyB ⟨dnm, dps, dfn, dbw, dgn⟩ := ⟨_, rfl⟩
              rw [← hbd]
              have HBD := Lib.hid hbd
              clear hbd
              go_wp2_with fail
              try simp only [Exit.inBlock, Exit.then]
              refine bodyPost_ret (v := .tuple #[.agg #[.string dnm, .int .i64 0, .slice A5 dps.length ca5, .bool dfn, .string bd, .bool dgn, .slice A6 n6 c6], .bool true]) ?_ rfl ⟨?_, ?_⟩
              · rw [results_cell_tmp rfl]
                go_simp
              · refine MW.out.trans ?_
                exact (((((((Below.refl _ _).setCell (by simp) _).setCell (by simp) _).setCell (by simp) _).setCell (by simp) _).setCell (by simp) _).setCell (by simp) _).setCell (by simp) _
              · have ne : ∀ q, (Value.slice A5 dps.length ca5).ownBlock = some q → q ≠ w.heap.size + 1 := fun q e h => by
                  subst h
                  obtain ⟨cur, hcur⟩ := own_typeL HO.out e
                  have h2 : w5.heap[w.heap.size + 1]? = _ := M4.out
                  rw [hcur] at h2
                  injection h2 with h2
                  injection h2 with _ h2
                  exact absurd h2 (by decide)
                refine ⟨.slice A5 dps.length ca5, A6, n6, c6, by rw [HBD.out], own_baseL (own_set (own_set (own_set (own_set (own_set (own_set (own_set HO.out ne) ne) ne) ne) ne) ne) ne) HSZ.out⟩
        · have HN : Hid (D = none) := by unfold Hid; rw [HWd.out]; simp [dfnW, hk1]
          have p1 : ¬ (t1k : Int) = 1 := by omega
          have p2 : ((t1k : Int) == 1) = false := by simpa using p1
          have p3 : ((t1k : Int) != 1) = true := by rw [bne, p2]; rfl
          clear hk1 HWd HGR HR30 hW8
          have z0 := B4.out.cell 0
          have z1 := B4.out.cell 1
          have z2 := B4.out.cell 2
          have z3 := B4.out.cell 3
          have z4 := B4.out.cell 4
          have z5 := B4.out.cell 5
          have z6 := B4.out.cell 6
          have k0 := B4.out.frozen 0
          have k1 := B4.out.frozen 1
          have k2 := B4.out.frozen 2
          have k3 := B4.out.frozen 3
          have k4 := B4.out.frozen 4
          have k5 := B4.out.frozen 5
          have k6 := B4.out.frozen 6
          simp at z0 z1 z2 z3 z4 z5 z6
          go_wp2_with fail
          try simp only [Exit.inBlock, Exit.then]
          refine bodyPost_ret (v := .tuple #[zeroD, .bool false]) ?_ rfl ⟨?_, ?_⟩
          · rw [results_cell_tmp rfl]
            unfold zeroD zeroA
            go_simp
          · refine BW.out.trans ?_
            exact (((((((Below.refl _ _).setCell (by simp) _).setCell (by simp) _).setCell (by simp) _).setCell (by simp) _).setCell (by simp) _).setCell (by simp) _).setCell (by simp) _
          · rw [HN.out]
            rfl
  · by_cases hU : K = undefBs
    · obtain ⟨hk7, hhd⟩ := kindB_line k x (HKK.out ▸ .inr hU)
      subst hk7
      have HWO := Lib.hid (words_ok n0 a b x w2 HGW.out hx hhd)
      have HWS := Lib.hid (words_size x hx)
      have HGD := Lib.hid (words_good x)
      have HDW : Hid (D = dfnW true (wordsL x)) := by unfold Hid; rw [HD.out]; rw [if_neg hD, if_pos hU]; rfl
      subst hU
      unfold undefBs at *
      clear hhd hx HGW HKK HD
      go_wp2_with fail
      refine HWO.out.mono ?_
      rintro e w3 ⟨g, cap, rfl, hc1, hc2, hg, hR, hb3⟩
      have hRW := rd_wat hR
      have HRL := Lib.hid hR
      have BW3 : Hid (Below w.heap.size w w3) := BW.out.trans (hb3.mono BW.out.size)
      have B43 : Hid (Blk w3 (w.heap.size + 1) 122 zeroA) := B4.out.below hb3 B4.out.lt
      clear y0 y1 y2 y3 hR hb3 HWO BW B4
      have BW := Lib.hid BW3.out
      have B4 := Lib.hid B43.out
      clear BW3 B43
      cases hw : wordsL x with
      | nil =>
        have HN : Hid (D = none) := by unfold Hid; rw [HDW.out, hw]; rfl
        clear hRW HRL hc1 hc2 hg HWS HGD HDW hw
        have z0 := B4.out.cell 0
        have z1 := B4.out.cell 1
        have z2 := B4.out.cell 2
        have z3 := B4.out.cell 3
        have z4 := B4.out.cell 4
        have z5 := B4.out.cell 5
        have z6 := B4.out.cell 6
        have k0 := B4.out.frozen 0
        have k1 := B4.out.frozen 1
        have k2 := B4.out.frozen 2
        have k3 := B4.out.frozen 3
        have k4 := B4.out.frozen 4
        have k5 := B4.out.frozen 5
        have k6 := B4.out.frozen 6
        simp at z0 z1 z2 z3 z4 z5 z6
        go_wp2_with fail
        try simp only [Exit.inBlock, Exit.then]
        refine bodyPost_ret (v := .tuple #[zeroD, .bool false]) ?_ rfl ⟨?_, ?_⟩
        · rw [results_cell_tmp rfl]
          unfold zeroD zeroA
          go_simp
        · refine BW.out.trans ?_
          exact (((((((Below.refl _ _).setCell (by simp) _).setCell (by simp) _).setCell (by simp) _).setCell (by simp) _).setCell (by simp) _).setCell (by simp) _).setCell (by simp) _
        · rw [HN.out]
          rfl
      | cons t0 r0 =>
        cases r0 with
        | nil =>
          have HN : Hid (D = none) := by unfold Hid; rw [HDW.out, hw]; rfl
          clear hRW HRL hc1 hc2 hg HWS HGD HDW hw
          have z0 := B4.out.cell 0
          have z1 := B4.out.cell 1
          have z2 := B4.out.cell 2
          have z3 := B4.out.cell 3
          have z4 := B4.out.cell 4
          have z5 := B4.out.cell 5
          have z6 := B4.out.cell 6
          have k0 := B4.out.frozen 0
          have k1 := B4.out.frozen 1
          have k2 := B4.out.frozen 2
          have k3 := B4.out.frozen 3
          have k4 := B4.out.frozen 4
          have k5 := B4.out.frozen 5
          have k6 := B4.out.frozen 6
          simp at z0 z1 z2 z3 z4 z5 z6
          go_wp2_with fail
          try simp only [Exit.inBlock, Exit.then]
          refine bodyPost_ret (v := .tuple #[zeroD, .bool false]) ?_ rfl ⟨?_, ?_⟩
          · rw [results_cell_tmp rfl]
            unfold zeroD zeroA
            go_simp
          · refine BW.out.trans ?_
            exact (((((((Below.refl _ _).setCell (by simp) _).setCell (by simp) _).setCell (by simp) _).setCell (by simp) _).setCell (by simp) _).setCell (by simp) _).setCell (by simp) _
          · rw [HN.out]
            rfl
        | cons t1 r =>
          have hgl : g < w3.heap.size := by have h := HRL.out; rw [hw] at h; exact rd_lt h
          rw [hw] at hRW hc1
          obtain ⟨c0, c1, c2, c3⟩ := wat_head (wat_tail hRW)
          have hW8 := Lib.hid (wat_tail (wat_tail hRW))
          have HWd := Lib.hid (show D = dfnW true (t0 :: t1 :: r) by rw [HDW.out, hw])
          have HWS2 := HWS.out
          rw [hw] at HWS2
          have hr30 : r.length ≤ 30000 := by have := HWS2.1; simp only [List.length_cons] at this; omega
          have HGR : Hid (∀ t ∈ r, WordOk t ∧ t.x.size ≤ 20001) := fun t ht => by
            have hm : t ∈ wordsL x := by rw [hw]; simp [ht]
            exact ⟨HGD.out t hm, HWS.out.2 t hm⟩
          have HR30 := Lib.hid hr30
          obtain ⟨n, hn⟩ : ∃ n, n = (t0 :: t1 :: r).length := ⟨_, rfl⟩
          rw [← hn] at hc1 ⊢
          have HNR : Hid (r.length = n - 2) := by unfold Hid; rw [hn, List.length_cons, List.length_cons]; omega
          have hn2 : 2 ≤ n := by rw [hn, List.length_cons, List.length_cons]; omega
          have q2 : ¬ (n : Int) < 2 := by omega
          have q3 : (1 : Int) < (n : Int) := by omega
          have q4 : (2 : Int) ≤ (n : Int) := by omega
          have q5 : 2 ≤ cap := by omega
          have HGL := Lib.hid hgl
          have HCP := Lib.hid hc1
          obtain ⟨t1k, t1b, t1x, t1a⟩ := t1
          simp only at c0 c1 c2 c3
          clear hn hw hRW HRL HWS HWS2 HGD HDW hr30 hc2 hg hgl
          by_cases hk1 : t1k = 1
          · subst hk1
            go_upto_region 7 with (fail)
            go_cut [7, 8] (fun v7 v8 wx => v7 = .string t1x ∧ ∃ o2 c2, v8 = .slice (some ⟨g, o2, none⟩) r.length c2 ∧ r.length ≤ c2 ∧ Hid (WAt wx g o2 r) ∧ Hid (g < wx.heap.size) ∧ Hid (Blk wx (w.heap.size + 1) 122 zeroA) ∧ Hid (Below w.heap.size w wx))
            case first =>
              by_cases hc2 : cap = 2
              · have hr0 : r = [] := List.eq_nil_of_length_eq_zero (by have := HNR.out; have := HCP.out; omega)
                have HR0 := Lib.hid hr0
                clear hr0
                subst hc2
                go_wp2_with fail
                go_region
                all_goals go_wp2_with fail
                all_goals go_meet
                all_goals exact ⟨rfl, 0, 0, by rw [HR0.out]; rfl, by rw [HR0.out]; exact Nat.le_refl _, by rw [HR0.out]; exact fun i h => absurd h (Nat.not_lt_zero _), HGL.out, B4.out.drewN 1, BW.out.drew⟩
              · have q6 : 3 ≤ cap := by omega
                go_wp2_with fail
                go_region
                all_goals go_wp2_with fail
                all_goals go_meet
                all_goals exact ⟨rfl, 8, cap - 2, by rw [HNR.out], by rw [HNR.out]; have := HCP.out; omega, hW8.out, HGL.out, B4.out.drewN 1, BW.out.drew⟩
            case rest =>
              clear BW B4
              obtain ⟨rfl, o2, c4, rfl, hc4, hW9, hg9, B4, BW⟩ := hcut
              obtain ⟨w4, hw4⟩ : ∃ x : World, x = wc := ⟨_, rfl⟩
              subst hw4
              clear c0 c1 c2 c3 q2 q3 q4 q5 hn2 hc1 HNR HCP HGL hW8
              have HN : Hid (D = some ⟨t1x, [], false, [], true⟩) := by unfold Hid; rw [HWd.out]; simp [dfnW]
              have M4 := Lib.hid B4.out
              clear hc4 HWd HR30 HGR hW9 B4
              have z0 := M4.out.cell 0
              have z1 := M4.out.cell 1
              have z2 := M4.out.cell 2
              have z3 := M4.out.cell 3
              have z4 := M4.out.cell 4
              have z5 := M4.out.cell 5
              have z6 := M4.out.cell 6
              have k0 := M4.out.frozen 0
              have k1 := M4.out.frozen 1
              have k2 := M4.out.frozen 2
              have k3 := M4.out.frozen 3
              have k4 := M4.out.frozen 4
              have k5 := M4.out.frozen 5
              have k6 := M4.out.frozen 6
              simp at z0 z1 z2 z3 z4 z5 z6
              go_wp2_with fail
              try simp only [Exit.inBlock, Exit.then]
              refine bodyPost_ret (v := .tuple #[.agg #[.string t1x, .int .i64 0, .slice none 0 0, .bool false, .string ⟨#[]⟩, .bool true, .slice none 0 0], .bool true]) ?_ rfl ⟨?_, ?_⟩
              · rw [results_cell_tmp rfl]
                go_simp
              · refine BW.out.trans ?_
                exact (((((((Below.refl _ _).setCell (by simp) _).setCell (by simp) _).setCell (by simp) _).setCell (by simp) _).setCell (by simp) _).setCell (by simp) _).setCell (by simp) _
              · rw [HN.out]
                exact ⟨.slice none 0 0, none, 0, 0, rfl, World.ownsRow_nil _ _ _ _⟩
          · have HN : Hid (D = none) := by unfold Hid; rw [HWd.out]; simp [dfnW, hk1]
            have p1 : ¬ (t1k : Int) = 1 := by omega
            have p2 : ((t1k : Int) == 1) = false := by simpa using p1
            have p3 : ((t1k : Int) != 1) = true := by rw [bne, p2]; rfl
            clear hk1 HWd HGR HR30 hW8
            have z0 := B4.out.cell 0
            have z1 := B4.out.cell 1
            have z2 := B4.out.cell 2
            have z3 := B4.out.cell 3
            have z4 := B4.out.cell 4
            have z5 := B4.out.cell 5
            have z6 := B4.out.cell 6
            have k0 := B4.out.frozen 0
            have k1 := B4.out.frozen 1
            have k2 := B4.out.frozen 2
            have k3 := B4.out.frozen 3
            have k4 := B4.out.frozen 4
            have k5 := B4.out.frozen 5
            have k6 := B4.out.frozen 6
            simp at z0 z1 z2 z3 z4 z5 z6
            go_wp2_with fail
            try simp only [Exit.inBlock, Exit.then]
            refine bodyPost_ret (v := .tuple #[zeroD, .bool false]) ?_ rfl ⟨?_, ?_⟩
            · rw [results_cell_tmp rfl]
              unfold zeroD zeroA
              go_simp
            · refine BW.out.trans ?_
              exact (((((((Below.refl _ _).setCell (by simp) _).setCell (by simp) _).setCell (by simp) _).setCell (by simp) _).setCell (by simp) _).setCell (by simp) _).setCell (by simp) _
            · rw [HN.out]
              rfl
    · have HN : Hid (D = none) := by unfold Hid; rw [HD.out, if_neg hD, if_neg hU]
      have e1 : (K.toList == [100, 101, 102, 105, 110, 101]) = false := by
        rw [beq_eq_false_iff_ne, Lib.toList_data]
        exact fun e => hD (ByteArray.ext (Array.toList_inj.1 e))
      have e2 : (K.toList == [117, 110, 100, 101, 102]) = false := by
        rw [beq_eq_false_iff_ne, Lib.toList_data]
        exact fun e => hU (ByteArray.ext (Array.toList_inj.1 e))
      clear hD hU y0 y1 y2 y3
      have z0 := B4.out.cell 0
      have z1 := B4.out.cell 1
      have z2 := B4.out.cell 2
      have z3 := B4.out.cell 3
      have z4 := B4.out.cell 4
      have z5 := B4.out.cell 5
      have z6 := B4.out.cell 6
      have k0 := B4.out.frozen 0
      have k1 := B4.out.frozen 1
      have k2 := B4.out.frozen 2
      have k3 := B4.out.frozen 3
      have k4 := B4.out.frozen 4
      have k5 := B4.out.frozen 5
      have k6 := B4.out.frozen 6
      simp at z0 z1 z2 z3 z4 z5 z6
      go_wp2_with fail
      try simp only [Exit.inBlock, Exit.then]
      refine bodyPost_ret (v := .tuple #[zeroD, .bool false]) ?_ rfl ⟨?_, ?_⟩
      · rw [results_cell_tmp rfl]
        unfold zeroD zeroA
        go_simp
      · refine BW.out.trans ?_
        exact (((((((Below.refl _ _).setCell (by simp) _).setCell (by simp) _).setCell (by simp) _).setCell (by simp) _).setCell (by simp) _).setCell (by simp) _).setCell (by simp) _
      · rw [HN.out]
        rfl

abbrev zeroA6 : Array Value := #[.string ⟨#[]⟩, .int .i64 0, .slice none 0 0, .bool false, .string ⟨#[]⟩, .bool false]
def zeroM : Value := .agg zeroA6
/-- what Define gives -/
def DefM (B : Nat) (d : Option Dfn) (e : Ending) (w' : World) : Prop :=
  match d with
  | none => e = .returned (.tuple #[zeroM, .bool false])
  | some d => ∃ v, e = .returned (.tuple #[.agg #[.string d.nm, .int .i64 0, v, .bool d.fn, .string (bodyB d), .bool d.gone], .bool true]) ∧ w'.ownsRow B 9 1 v d.ps.length (d.ps.map Value.string)

set_option maxHeartbeats 8000000 in
set_option maxRecDepth 100000 in
theorem Define_any (n0 : Nat) (k a : Int) (b x : ByteArray) (w : World) (hG : LexG n0 w) (hx : x.size ≤ 20001) :
    Calls Tryz.prog 62 #[.agg #[.int .i64 k, .string b, .string x, .int .i64 a]] w fun e w' => Below w.heap.size w w' ∧ DefM w.heap.size (dfnB k x) e w' := by
  have hb1 : Below w.heap.size w (w.alloc (.cells #[.int .i64 k, .string b, .string x, .int .i64 a] 29)) := (Below.refl _ _).alloc (Nat.le_refl _) _
  obtain ⟨W0, hW0⟩ : ∃ W0, W0 = (w.alloc (.cells #[.int .i64 k, .string b, .string x, .int .i64 a] 29)).alloc (.cells zeroA6 74) := ⟨_, rfl⟩
  have KO := define_any n0 k a b x W0 (by rw [hW0]; exact hG.below (((Below.refl _ _).alloc (Nat.le_refl _) _).alloc (by simp) _)) hx
  obtain ⟨D, hD⟩ : ∃ D, D = dfnB k x := ⟨_, rfl⟩
  rw [← hD] at KO ⊢
  have F1 : Blk W0 w.heap.size 29 #[.int .i64 k, .string b, .string x, .int .i64 a] := by rw [hW0]; exact (Blk.new w _ _).alloc _
  have F2 : Blk W0 (w.heap.size + 1) 74 zeroA6 := by
    have := Blk.new (w.alloc (.cells #[.int .i64 k, .string b, .string x, .int .i64 a] 29)) 74 zeroA6
    rw [show (w.alloc (.cells #[.int .i64 k, .string b, .string x, .int .i64 a] 29)).heap.size = w.heap.size + 1 by simp] at this
    rw [hW0]
    exact this
  have F3 : Below w.heap.size w W0 := by rw [hW0]; exact hb1.alloc (by simp) _
  have HKO := Lib.hid KO
  have HF1 := Lib.hid F1
  have HF2 := Lib.hid F2
  have HF3 := Lib.hid F3
  have HW0 := Lib.hid hW0
  clear KO F1 F2 F3 hD hb1 hW0 hG hx
  go_enter Tryz.func62, Tryz.ntmps62
  go_upto_region 1 with (fail)
  rw [← HW0.out]
  have x0 := HF1.out.cell 0
  have x1 := HF1.out.cell 1
  have x2 := HF1.out.cell 2
  have x3 := HF1.out.cell 3
  simp at x0 x1 x2 x3
  go_wp2_with fail
  refine HKO.out.mono ?_
  rintro e w2 ⟨hb2, hr⟩
  have M4 : Hid (Blk w2 (w.heap.size + 1) 74 zeroA6) := HF2.out.below hb2 HF2.out.lt
  have MW : Hid (Below w.heap.size w w2) := HF3.out.trans (hb2.mono HF3.out.size)
  have HSZ := Lib.hid HF3.out.size
  clear hb2 x0 x1 x2 x3 HKO HF1 HF2 HF3
  have z0 := M4.out.cell 0
  have z1 := M4.out.cell 1
  have z2 := M4.out.cell 2
  have z3 := M4.out.cell 3
  have z4 := M4.out.cell 4
  have z5 := M4.out.cell 5
  have k0 := M4.out.frozen 0
  have k1 := M4.out.frozen 1
  have k2 := M4.out.frozen 2
  have k3 := M4.out.frozen 3
  have k4 := M4.out.frozen 4
  have k5 := M4.out.frozen 5
  simp at z0 z1 z2 z3 z4 z5
  have hlt := M4.out.lt
  cases D with
  | none =>
    have he : e = .returned (.tuple #[zeroD, .bool false]) := hr
    subst he
    unfold zeroD
    clear hr
    go_wp2_with fail
    try simp only [Exit.inBlock, Exit.then]
    refine bodyPost_ret (v := .tuple #[zeroM, .bool false]) ?_ rfl ⟨?_, rfl⟩
    · rw [results_cell_tmp rfl]
      unfold zeroM zeroA6
      go_simp
    · refine MW.out.trans ?_
      exact ((((((((Below.refl w.heap.size w2).setCell (by simp) _).setCell (by simp) _).setCell (by simp) _).setCell (by simp) _).setCell (by simp) _).setCell (by simp) _).alloc (by simp; omega) _)
  | some d =>
    obtain ⟨v, A6, n6, c6, rfl, hO⟩ := hr
    obtain ⟨A5, ca5, rfl⟩ := own_len hO
    have HO := Lib.hid hO
    clear hO
    obtain ⟨dnm, dps, dfn, dbw, dgn⟩ := d
    simp only at HO
    obtain ⟨bd, hbd⟩ : ∃ bd, bd = bodyB ⟨dnm, dps, dfn, dbw, dgn⟩ := ⟨_, rfl⟩
    rw [← hbd]
    have HBD := Lib.hid hbd
    clear hbd
    go_wp2_with fail
    try simp only [Exit.inBlock, Exit.then]
    refine bodyPost_ret (v := .tuple #[.agg #[.string dnm, .int .i64 0, .slice A5 dps.length ca5, .bool dfn, .string bd, .bool dgn], .bool true]) ?_ rfl ⟨?_, ?_⟩
    · rw [results_cell_tmp rfl]
      go_simp
    · refine MW.out.trans ?_
      exact ((((((((Below.refl w.heap.size w2).setCell (by simp) _).setCell (by simp) _).setCell (by simp) _).setCell (by simp) _).setCell (by simp) _).setCell (by simp) _).alloc (by simp; omega) _)
    · have ne : ∀ q, (Value.slice A5 dps.length ca5).ownBlock = some q → q ≠ w.heap.size + 1 := fun q e h => by
        subst h
        obtain ⟨cur, hcur⟩ := own_typeL HO.out e
        have h2 : w2.heap[w.heap.size + 1]? = _ := M4.out
        rw [hcur] at h2
        injection h2 with h2
        injection h2 with _ h2
        exact absurd h2 (by decide)
      refine ⟨.slice A5 dps.length ca5, by rw [HBD.out], own_baseL (World.ownsRow.alloc (own_set (own_set (own_set (own_set (own_set (own_set HO.out ne) ne) ne) ne) ne) ne) _) HSZ.out⟩

end Go.Proofs.YtjdpkhjoecfhlaaGreatDoor
