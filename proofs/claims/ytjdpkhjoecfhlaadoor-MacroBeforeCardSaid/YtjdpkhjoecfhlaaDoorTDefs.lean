/- The law MacroDefines. -/
import Derived.Test.YtjdpkhjoecfhlaaDoorMacH
import Derived.Test.YtjdpkhjoecfhlaaDoorLexJ
namespace Go.Proofs.YtjdpkhjoecfhlaaDoor
open Go.RowKit Go.Maps Go.Shelf

set_option maxHeartbeats 1000000 in
set_option maxRecDepth 100000 in
/-- two definitions that are the same -/
theorem eqDef_same (nm bd : ByteArray) (i : Int) (fn gn : Bool) (A1 A2 : Option Addr) (c1 c2 : Nat) (ps : List ByteArray) (w : World) (hl : ps.length ≤ 1000000) (h1 : Rd w w.heap.size A1 (ps.map Value.string)) (h2 : Rd w w.heap.size A2 (ps.map Value.string)) :
    Calls Tryd.prog 8 #[.agg #[.string nm, .int .i64 i, .slice A1 ps.length c1, .bool fn, .string bd, .bool gn], .agg #[.string nm, .int .i64 i, .slice A2 ps.length c2, .bool fn, .string bd, .bool gn]] w fun e w' => e = .returned (.bool true) ∧ Below w.heap.size w w' := by
  obtain ⟨W0, hW0⟩ : ∃ W0, W0 = (w.alloc (.cells #[.string nm, .int .i64 i, .slice A1 ps.length c1, .bool fn, .string bd, .bool gn] 27)).alloc (.cells #[.string nm, .int .i64 i, .slice A2 ps.length c2, .bool fn, .string bd, .bool gn] 30) := ⟨_, rfl⟩
  have F3 : Below w.heap.size w W0 := by rw [hW0]; exact ((Below.refl _ _).alloc (Nat.le_refl _) _).alloc (by simp) _
  have EQ := eqStr_any A1 A2 c1 c2 ps ps W0 hl hl ((h1.below F3).more F3.size) ((h2.below F3).more F3.size)
  rw [show decide (ps = ps) = true by simp] at EQ
  have HEQ := Lib.hid EQ
  have HF3 := Lib.hid F3
  obtain ⟨n, hn⟩ : ∃ n, n = ps.length := ⟨_, rfl⟩
  rw [← hn] at HEQ hW0 ⊢
  have HW0 := Lib.hid hW0
  clear EQ F3 hW0 h1 h2 hl hn
  go_enter Tryd.func8, Tryd.ntmps8
  go_wp2_with fail
  rw [← HW0.out]
  refine HEQ.out.mono ?_
  rintro e w2 ⟨rfl, hb2⟩
  have G1 := (Blk.alloc (Blk.new w 27 #[.string nm, .int .i64 i, .slice A1 n c1, .bool fn, .string bd, .bool gn]) (.cells #[.string nm, .int .i64 i, .slice A2 n c2, .bool fn, .string bd, .bool gn] 30))
  have G2 := Blk.new (w.alloc (.cells #[.string nm, .int .i64 i, .slice A1 n c1, .bool fn, .string bd, .bool gn] 27)) 30 #[.string nm, .int .i64 i, .slice A2 n c2, .bool fn, .string bd, .bool gn]
  rw [show (w.alloc (.cells #[.string nm, .int .i64 i, .slice A1 n c1, .bool fn, .string bd, .bool gn] 27)).heap.size = w.heap.size + 1 by simp] at G2
  rw [← HW0.out] at G1 G2
  have G3 := G1.below hb2 G1.lt
  have G4 := G2.below hb2 G2.lt
  have BW := Lib.hid (HF3.out.trans (hb2.mono HF3.out.size))
  have x3 := G3.cell 3
  have x4 := G3.cell 4
  have x5 := G3.cell 5
  have y3 := G4.cell 3
  have y4 := G4.cell 4
  have y5 := G4.cell 5
  simp at x3 x4 x5 y3 y4 y5
  clear G1 G2 G3 G4 hb2 HEQ HW0 HF3
  go_wp2_with fail
  go_ret
  exact ⟨rfl, BW.out⟩

def awakeT : ByteArray := ⟨#[35, 100, 101, 102, 105, 110, 101, 32, 70, 40, 97, 41, 32, 97, 43, 49]⟩
theorem awake_dfn : dfnB 7 awakeT = some ⟨⟨#[70]⟩, [⟨#[97]⟩], true, [⟨#[97]⟩, ⟨#[43]⟩, ⟨#[49]⟩], false⟩ := by kernel_rfl
theorem awake_body : bodyB ⟨⟨#[70]⟩, [⟨#[97]⟩], true, [⟨#[97]⟩, ⟨#[43]⟩, ⟨#[49]⟩], false⟩ = ⟨#[97, 32, 43, 32, 49]⟩ := by kernel_rfl

set_option maxHeartbeats 1000000 in
set_option maxRecDepth 100000 in
theorem awake_any (n0 : Nat) (w : World) (hG : LexG n0 w) :
    Calls Tryd.prog 5 #[] w fun e w' => e = .returned (.bool true) ∧ Below w.heap.size w w' := by
  have HD := Define_any n0 7 0 ⟨#[]⟩ awakeT w hG (by decide)
  rw [awake_dfn] at HD
  have HHD := Lib.hid HD
  clear HD
  go_enter Tryd.func5, Tryd.ntmps5
  go_wp2_with fail
  refine HHD.out.mono ?_
  rintro e w2 ⟨hb2, v, rfl, hO⟩
  obtain ⟨A5, ca5, rfl⟩ := own_len hO
  obtain ⟨g, cap, e, hgb, hgl⟩ := hO.form (by simp)
  injection e with e1 e2 e3
  subst e1
  have c0 : w2.cell? ⟨g, 0, none⟩ = some (.string ⟨#[97]⟩) := hO.cellAt 0 (by simp)
  have HB2 := Lib.hid hb2
  clear hO hb2 e2 e3 HHD hG
  simp only [awake_body, List.length_cons, List.length_nil]
  go_wp2_with fail
  go_ret
  exact ⟨rfl, HB2.out.alloc HB2.out.size _⟩

theorem defP_len (l : List Tk) (p : List ByteArray × Bool × List Tk) (h : defP l = some p) : p.1.length ≤ l.length + 1 := by
  cases l with
  | nil => simp [defP] at h; rw [← h]; simp
  | cons t r =>
    by_cases hT : defT (t :: r) = true
    · rw [defP_yes t r hT] at h
      cases e : parL r with
      | none => rw [e] at h; cases h
      | some q =>
        rw [e] at h
        injection h with h
        rw [← h]
        show q.1.length ≤ _
        cases r with
        | nil => simp [parL] at e
        | cons t2 r2 =>
          simp only [parL] at e
          split at e
          · injection e with e
            rw [← e]
            simp
          · have := parG_len _ [] _ q (Nat.le_refl _) e
            simp only [List.length_nil, List.length_cons] at this ⊢
            omega
    · rw [defP_no _ (by simpa using hT)] at h
      injection h with h
      rw [← h]
      simp
theorem dfn_len (k : Int) (x : ByteArray) (d : Dfn) (hx : x.size ≤ 20001) (h : dfnB k x = some d) : d.ps.length ≤ 1000000 := by
  have key : ∀ gone, dfnW gone (wordsL x) = some d → d.ps.length ≤ 1000000 := fun gone h => by
    have hl := (words_size x hx).1
    match hw : wordsL x with
    | [] => rw [hw] at h; cases h
    | [_] => rw [hw] at h; cases h
    | t0 :: t1 :: r =>
      rw [hw] at h hl
      simp only [List.length_cons] at hl
      simp only [dfnW] at h
      split at h
      · split at h
        · injection h with h
          rw [← h]
          simp
        · cases e : defP r with
          | none => rw [e] at h; cases h
          | some p =>
            rw [e] at h
            injection h with h
            have := defP_len r p e
            rw [← h]
            show p.1.length ≤ _
            omega
      · cases h
  unfold dfnB at h
  split at h
  · exact key _ h
  · split at h
    · exact key _ h
    · cases h

set_option maxHeartbeats 2000000 in
set_option maxRecDepth 100000 in
theorem macroDefines_any (n0 : Nat) (k a : Int) (b x : ByteArray) (w : World) (hG : LexG n0 w) (hx : x.size ≤ 140737488355328) :
    Calls Tryd.prog 3 #[.agg #[.int .i64 k, .string b, .string x, .int .i64 a]] w fun e w' => e = .returned (.bool true) ∧ Below w.heap.size w w' := by
  have hb1 : Below w.heap.size w (w.alloc (.cells #[.int .i64 k, .string b, .string x, .int .i64 a] 23)) := (Below.refl _ _).alloc (Nat.le_refl _) _
  have B1 := Blk.new w 23 #[.int .i64 k, .string b, .string x, .int .i64 a]
  have HB1 := Lib.hid hb1
  have HBL := Lib.hid B1
  have HG := Lib.hid hG
  have HAW : Hid (∀ W, Below w.heap.size w W → Calls Tryd.prog 5 #[] W fun e w' => e = .returned (.bool true) ∧ Below W.heap.size W w') := fun W hW => awake_any n0 W (hG.below hW)
  by_cases hlen : x.size ≤ 20000
  · have l1 : ¬ (20000 : Int) < (x.size : Int) := by omega
    have HDP : Hid (∀ W, Below w.heap.size w W → Calls Tryd.prog 6 #[.agg #[.int .i64 k, .string b, .string x, .int .i64 a]] W fun e w' => Below W.heap.size W w' ∧ DefM W.heap.size (dfnB k x) e w') := fun W hW => Define_any n0 k a b x W (hG.below hW) (by omega)
    have HDR : Hid (∀ W, Calls Tryd.prog 7 #[.agg #[.int .i64 k, .string b, .string x, .int .i64 a]] W fun e w' => Below W.heap.size W w' ∧ DefM W.heap.size (dfnB k x) e w') := fun W => refDefine_any k a b x W (by omega)
    obtain ⟨D, hD⟩ : ∃ D, D = dfnB k x := ⟨_, rfl⟩
    rw [← hD] at HDP HDR
    have HPL : Hid (∀ d, D = some d → d.ps.length ≤ 1000000) := fun d hd => dfn_len k x d (by omega) (hD.symm.trans hd)
    clear hD hG hb1 B1 hlen hx
    go_enter Tryd.func3, Tryd.ntmps3
    go_wp2_with fail
    refine (HDP.out _ HB1.out).mono ?_
    rintro e w2 ⟨hb2, hr2⟩
    have hb3 := HB1.out.trans (hb2.mono HB1.out.size)
    have x0 := (HBL.out.below hb2 HBL.out.lt).cell 0
    have x1 := (HBL.out.below hb2 HBL.out.lt).cell 1
    have x2 := (HBL.out.below hb2 HBL.out.lt).cell 2
    have x3 := (HBL.out.below hb2 HBL.out.lt).cell 3
    simp at x0 x1 x2 x3
    have HB3 := Lib.hid hb3
    have HBL2 := Lib.hid (HBL.out.below hb2 HBL.out.lt)
    have hlt0 : w.heap.size < w2.heap.size := by have := HBL2.out.lt; exact this
    clear hb2 hb3
    cases D with
    | none =>
      have he : e = .returned (.tuple #[zeroM, .bool false]) := hr2
      subst he
      clear hr2
      unfold zeroM
      go_wp2_with fail
      refine (HDR.out _).mono ?_
      rintro e w3 ⟨hb4, hr4⟩
      have he : e = .returned (.tuple #[zeroM, .bool false]) := hr4
      subst he
      clear hr4
      unfold zeroM
      have K1 := (Blk.new w2 27 zeroA6).below hb4 (Blk.new w2 _ _).lt
      have z0 := K1.cell 0
      have z1 := K1.cell 1
      have z2 := K1.cell 2
      have z3 := K1.cell 3
      have z4 := K1.cell 4
      have z5 := K1.cell 5
      simp at z0 z1 z2 z3 z4 z5
      have HB5 := Lib.hid (HB3.out.trans (((Below.refl w2.heap.size w2).alloc (Nat.le_refl _) (.cells zeroA6 27)).trans (hb4.mono (by simp)) |>.mono HB3.out.size))
      have hlt1 : w2.heap.size < w3.heap.size := K1.lt
      clear hb4 K1
      go_wp2_with fail
      refine (eqDef_same ⟨#[]⟩ ⟨#[]⟩ 0 false false none none 0 0 [] _ (by simp) Rd.nil Rd.nil).mono ?_
      rintro e w4 ⟨rfl, hb6⟩
      have HB6 := Lib.hid (HB5.out.trans (((Below.refl w3.heap.size w3).alloc (Nat.le_refl _) (.cells zeroA6 30)).trans (hb6.mono (by simp)) |>.mono HB5.out.size))
      clear hb6
      go_wp2_with fail
      refine (HAW.out _ HB6.out).mono ?_
      rintro e w5 ⟨rfl, hb7⟩
      have HB7 := Lib.hid (HB6.out.trans (hb7.mono HB6.out.size))
      clear hb7
      go_wp2_with fail
      go_ret
      exact ⟨rfl, HB7.out⟩
    | some d =>
      obtain ⟨v, rfl, hO⟩ := hr2
      obtain ⟨A5, ca5, rfl⟩ := own_len hO
      have hps := HPL.out d rfl
      obtain ⟨dnm, dps, dfn, dbw, dgn⟩ := d
      simp only at hO hps
      have HO := Lib.hid (Rd.of_own hO)
      obtain ⟨bd, hbd⟩ : ∃ bd, bd = bodyB ⟨dnm, dps, dfn, dbw, dgn⟩ := ⟨_, rfl⟩
      rw [← hbd]
      have HBD := Lib.hid hbd
      have HPS := Lib.hid hps
      clear hO hbd hps
      go_wp2_with fail
      refine (HDR.out _).mono ?_
      rintro e w3 ⟨hb4, v, rfl, hO4⟩
      obtain ⟨A6, ca6, rfl⟩ := own_len hO4
      simp only at hO4
      rw [← HBD.out]
      have HO4 := Lib.hid (Rd.of_own hO4)
      have K1 := (Blk.new w2 27 #[.string dnm, .int .i64 0, .slice A5 dps.length ca5, .bool dfn, .string bd, .bool dgn]).below hb4 (Blk.new w2 _ _).lt
      have z0 := K1.cell 0
      have z1 := K1.cell 1
      have z2 := K1.cell 2
      have z3 := K1.cell 3
      have z4 := K1.cell 4
      have z5 := K1.cell 5
      simp at z0 z1 z2 z3 z4 z5
      have hbb := (((Below.refl w2.heap.size w2).alloc (Nat.le_refl _) (.cells #[.string dnm, .int .i64 0, .slice A5 dps.length ca5, .bool dfn, .string bd, .bool dgn] 27)).trans (hb4.mono (by simp)))
      have HB5 := Lib.hid (HB3.out.trans (hbb.mono HB3.out.size))
      have HO5 := Lib.hid ((HO.out.below hbb).more hbb.size)
      have hlt1 : w2.heap.size < w3.heap.size := K1.lt
      clear hb4 K1 hO4 hbb
      go_wp2_with fail
      refine (eqDef_same dnm bd 0 dfn dgn A5 A6 ca5 ca6 dps _ HPS.out ((HO5.out.below ((Below.refl _ _).alloc (Nat.le_refl _) _)).more (by simp)) ((HO4.out.below ((Below.refl _ _).alloc (Nat.le_refl _) _)).more (by simp))).mono ?_
      rintro e w4 ⟨rfl, hb6⟩
      have HB6 := Lib.hid (HB5.out.trans (((Below.refl w3.heap.size w3).alloc (Nat.le_refl _) (.cells #[.string dnm, .int .i64 0, .slice A6 dps.length ca6, .bool dfn, .string bd, .bool dgn] 30)).trans (hb6.mono (by simp)) |>.mono HB5.out.size))
      clear hb6
      go_wp2_with fail
      refine (HAW.out _ HB6.out).mono ?_
      rintro e w5 ⟨rfl, hb7⟩
      have HB7 := Lib.hid (HB6.out.trans (hb7.mono HB6.out.size))
      clear hb7
      go_wp2_with fail
      go_ret
      exact ⟨rfl, HB7.out⟩
  · have l1 : (20000 : Int) < (x.size : Int) := by omega
    clear hlen hx
    go_enter Tryd.func3, Tryd.ntmps3
    go_wp2_with fail
    refine (HAW.out _ HB1.out).mono ?_
    rintro e w2 ⟨rfl, hb2⟩
    have HB2 := Lib.hid (HB1.out.trans (hb2.mono HB1.out.size))
    clear hb2
    go_wp2_with fail
    go_ret
    exact ⟨rfl, HB2.out⟩

end Go.Proofs.YtjdpkhjoecfhlaaDoor
