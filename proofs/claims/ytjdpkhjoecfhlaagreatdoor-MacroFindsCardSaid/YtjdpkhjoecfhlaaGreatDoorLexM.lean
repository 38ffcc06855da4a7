/- Lex: the next token: the walk. -/
import Derived.Test.YtjdpkhjoecfhlaaGreatDoorLexN
namespace Go.Proofs.YtjdpkhjoecfhlaaGreatDoor
open Go.RowKit Go.Maps Go.Shelf

def tokV (k : Nat) (b x : ByteArray) (a : Nat) : Value := .agg #[.int .i64 k, .string b, .string x, .int .i64 a]

theorem signN_le (l : List UInt8) : signN l ≤ l.length := signG_le _ _
theorem tokF_le (f : Bool) (l : List UInt8) (h : l ≠ []) : 1 ≤ (tokF f l).2 ∧ (tokF f l).2 ≤ l.length := by
  have hl : 1 ≤ l.length := by cases l with
    | nil => exact absurd rfl h
    | cons c l => simp
  have h1 := wordN_le l
  have h2 := numN_le l
  have h3 := quoN_le l h
  have h4 := signN_le l
  have h5 : lineN l ≤ l.length := lineGo_le _ _ _
  unfold tokF
  by_cases g1 : f = true ∧ l.head? = some 35
  · rw [if_pos g1]
    have := lineGo_pos l g1.2 (l.length + 1) 0
    exact ⟨this, h5⟩
  · rw [if_neg g1]
    by_cases g2 : wordN l ≠ 0
    · rw [if_pos g2]; exact ⟨by show 1 ≤ wordN l; omega, h1⟩
    · rw [if_neg g2]
      by_cases g3 : numN l ≠ 0
      · rw [if_pos g3]; exact ⟨by show 1 ≤ numN l; omega, h2⟩
      · rw [if_neg g3]
        by_cases g4 : l.head? = some 39 ∧ (quoN l).2 = true
        · rw [if_pos g4]; exact ⟨h3.2, h3.1⟩
        · rw [if_neg g4]
          by_cases g5 : l.head? = some 34 ∧ (quoN l).2 = true
          · rw [if_pos g5]; exact ⟨h3.2, h3.1⟩
          · rw [if_neg g5]
            by_cases g6 : signN l ≠ 0
            · rw [if_pos g6]; exact ⟨by show 1 ≤ signN l; omega, h4⟩
            · rw [if_neg g6]; exact ⟨Nat.le_refl _, hl⟩

theorem grownBy_setNew {w w' : World} {row : Option Nat} (h : w.grownBy w' row) {b : Nat} (hb : w.heap.size ≤ b) (j : Nat) (v : Value) : w.grownBy (w'.setCell ⟨b, j, none⟩ v) row :=
  ⟨h.os, h.tape, h.output, Nat.le_trans h.size (KeepsWalks.setCell w' _ v).size, fun k hk hr => (Below.heap_setCell w' ⟨b, j, none⟩ v k (by simp; omega)).trans (h.block k hk hr)⟩

theorem results_cell1 {fn : Func} {p : Tmp} {ty : TypeId} (h : fn.results = #[.cell p ty]) (tmps : Array Value) (P : Program) (w : World) :
    (results fn tmps).run P w = ((asAddr (tmps.getD p undef)).run P w).andThen fun a w₁ => (loadVar ty a).run P w₁ := by
  simp only [results, h]
  simp [Sem.run_bind, Result.andThen]
  try (congr 1)

set_option maxHeartbeats 8000000 in
set_option maxRecDepth 100000 in
theorem next_any (n0 p K T oc os i : Nat) (f : Bool) (s : ByteArray) (w : World) (hi : i ≤ s.size) (hs : s.size ≤ 4000000) (h : ScB w p s i K f oc os T) (hL : LexW n0 p K T w)
    (h39 : OddInv s.data.toList 39 oc i) (h34 : OddInv s.data.toList 34 os i) (j : Nat) (f1 : Bool) (hj : j = i + (skipF f (s.data.toList.drop i)).1) (hf1 : f1 = (skipF f (s.data.toList.drop i)).2) :
    Calls Tryz.prog 67 #[.pointer (some ⟨p, 0, none⟩)] w fun e w' => w.grownBy w' (some p) ∧ j ≤ s.size ∧
      ((j = s.size ∧ e = .returned (tokV 0 (s.extract i j) ⟨#[]⟩ j) ∧ ScB w' p s j K f1 oc os T) ∨
       (j < s.size ∧ e = .returned (tokV (tokF f1 (s.data.toList.drop j)).1 (s.extract i j) (s.extract j (j + (tokF f1 (s.data.toList.drop j)).2)) j) ∧
        ∃ oc' os', ScB w' p s (j + (tokF f1 (s.data.toList.drop j)).2) K false oc' os' T ∧ OddInv s.data.toList 39 oc' j ∧ OddInv s.data.toList 34 os' j)) := by
  have hjl : j ≤ s.size := by
    have := skipF_le f (s.data.toList.drop i)
    have hsl : s.data.toList.length = s.size := by simp
    rw [List.length_drop, hsl] at this
    omega
  obtain ⟨m, hm⟩ := hL.maxV
  have c1 := h.c1
  have hplt := hL.plt
  have SK := skip_any p K T oc os i f m s (w.alloc (.cells #[.int .i64 0, .string ⟨#[]⟩, .string ⟨#[]⟩, .int .i64 0] 29)) hi hs (Blk.alloc h _) (by have := hL.maxN; have := hL.np; omega)
    ((World.grownBy_alloc w _ none).cell hm (by simp))
  rw [← hj, ← hf1] at SK
  have HSK := Lib.hid SK
  have HL := Lib.hid hL
  have HJ := Lib.hid hj
  have H39 := Lib.hid h39
  have H34 := Lib.hid h34
  clear SK hL hm h hj hf1 h39 h34
  have q1 : (0 : Int) ≤ i := by omega
  have hij : i ≤ j := by have := HJ.out; omega
  have q2 : (i : Int) ≤ j := by omega
  have q3 : (j : Int) ≤ s.size := by omega
  go_enter Tryz.func67, Tryz.ntmps67
  go_wp2_with fail
  refine HSK.out.mono ?_
  rintro e w2 ⟨⟨v, rfl⟩, hg2, hs2⟩
  have HG2 := Lib.hid hg2
  have HS2 := Lib.hid hs2
  have d0 := hs2.c0
  have d1 := hs2.c1
  have p2 : p < w2.heap.size := Blk.lt hs2
  clear hg2 hs2 HSK c1
  go_wp2_with fail
  go_region
  have w3eq : True := trivial
  have hB3 : Blk ((w2.alloc (.cells #[.int .i64 0, .string (s.extract i j), .string ⟨#[]⟩, .int .i64 j] 29)).drew) w2.heap.size 29 #[.int .i64 0, .string (s.extract i j), .string ⟨#[]⟩, .int .i64 j] := Blk.new w2 _ _
  have hR1 : Blk (w.alloc (.cells #[.int .i64 0, .string ⟨#[]⟩, .string ⟨#[]⟩, .int .i64 0] 29)) w.heap.size 29 #[.int .i64 0, .string ⟨#[]⟩, .string ⟨#[]⟩, .int .i64 0] := Blk.new w _ _
  have hR3 : Blk ((w2.alloc (.cells #[.int .i64 0, .string (s.extract i j), .string ⟨#[]⟩, .int .i64 j] 29)).drew) w.heap.size 29 #[.int .i64 0, .string ⟨#[]⟩, .string ⟨#[]⟩, .int .i64 0] := Blk.alloc (hR1.kept HG2.out (by simp; omega)) _
  have hS3 : ScB ((w2.alloc (.cells #[.int .i64 0, .string (s.extract i j), .string ⟨#[]⟩, .int .i64 j] 29)).drew) p s j K f1 oc os T := Blk.alloc HS2.out _
  have hG3 : w.grownBy ((w2.alloc (.cells #[.int .i64 0, .string (s.extract i j), .string ⟨#[]⟩, .int .i64 j] 29)).drew) (some p) :=
    grownBy_trans (grownBy_any (World.grownBy_alloc w _ none) _) (grownBy_trans HG2.out (grownBy_trans (grownBy_any (World.grownBy_alloc w2 _ none) _) (grownBy_drewN _ 1 _)))
  have hRA : w.heap.size < w2.heap.size := by have := HG2.out.size; simp at this; omega
  have hpR : ¬ p = w.heap.size := by omega
  have hpA : ¬ p = w2.heap.size := by omega
  have HB3 := Lib.hid hB3
  have HR3 := Lib.hid hR3
  have HS3 := Lib.hid hS3
  have HG3 := Lib.hid hG3
  have HRA := Lib.hid hRA
  clear hB3 hR1 hR3 hS3 hG3 d0 d1
  generalize ((w2.alloc (.cells #[.int .i64 0, .string (s.extract i j), .string ⟨#[]⟩, .int .i64 j] 29)).drew) = w3 at *
  generalize hA : w2.heap.size = A at *
  generalize hR : w.heap.size = R at *
  have hAR : ¬ A = R := by have := HRA.out; omega
  have c0 := HS3.out.c0
  have c1 := HS3.out.c1
  go_wp2_with fail
  go_quiet (fail)
  have hS4 : Hid (ScB (w3.drewN nq) p s j K f1 oc os T) := HS3.out
  have hB4 : Hid (Blk (w3.drewN nq) A 29 #[.int .i64 0, .string (s.extract i j), .string ⟨#[]⟩, .int .i64 j]) := HB3.out
  have hR4 : Hid (Blk (w3.drewN nq) R 29 #[.int .i64 0, .string ⟨#[]⟩, .string ⟨#[]⟩, .int .i64 0]) := HR3.out
  have hG4 : Hid (w.grownBy (w3.drewN nq) (some p)) := grownBy_trans HG3.out (grownBy_drewN _ _ _)
  clear c0 c1 HS3 HB3 HR3 HG3 HS2 HG2
  generalize w3.drewN nq = w4 at *
  by_cases hjs : j = s.size
  · have g0 : ((j : Nat) : Int) = s.size := by omega
    have b0 : w4.cell? ⟨A, 0, none⟩ = some (.int .i64 0) := hB4.out.cell 0
    have b1 : w4.cell? ⟨A, 1, none⟩ = some (.string (s.extract i j)) := hB4.out.cell 1
    have b2 : w4.cell? ⟨A, 2, none⟩ = some (.string ⟨#[]⟩) := hB4.out.cell 2
    have b3 : w4.cell? ⟨A, 3, none⟩ = some (.int .i64 j) := hB4.out.cell 3
    have r0 := hR4.out.cell 0
    have r1 := hR4.out.cell 1
    have r2 := hR4.out.cell 2
    have r3 := hR4.out.cell 3
    have e0 := hR4.out.frozen 0
    have e1 := hR4.out.frozen 1
    have e2 := hR4.out.frozen 2
    have e3 := hR4.out.frozen 3
    have HJS := Lib.hid hjs
    clear hjs
    go_wp2
    try simp only [Exit.inBlock, Exit.then]
    refine bodyPost_ret (v := tokV 0 (s.extract i j) ⟨#[]⟩ j) ?_ rfl ?_
    · rw [results_cell1 rfl]
      unfold tokV
      go_simp
    · refine ⟨grownBy_setNew (grownBy_setNew (grownBy_setNew (grownBy_setNew hG4.out (Nat.le_of_eq hR) 0 _) (Nat.le_of_eq hR) 1 _) (Nat.le_of_eq hR) 2 _) (Nat.le_of_eq hR) 3 _, hjl, .inl ⟨HJS.out, rfl, ?_⟩⟩
      exact (((hS4.out.other hpR _).other hpR _).other hpR _).other hpR _
  · have hjlt : j < s.size := by omega
    have g0 : (((j : Nat) : Int) == ((s.size : Nat) : Int)) = false := by simp; omega
    rw [g0]
    have hsl : s.data.toList.length = s.size := by simp
    have htl := tokF_le f1 (s.data.toList.drop j) (List.ne_nil_of_length_pos (by rw [List.length_drop, hsl]; omega))
    rw [List.length_drop, hsl] at htl
    have h1st := tokF_first f1 (s.data.toList.drop j)
    generalize hkz : tokF f1 (s.data.toList.drop j) = kz at *
    obtain ⟨kt, zt⟩ := kz
    simp only at htl
    have H1ST := Lib.hid h1st
    have HKZ := Lib.hid hkz
    have HO := Lib.hid (And.intro (H39.out.mono hij) (H34.out.mono hij))
    have HRA' := Lib.hid hR
    clear h1st hkz hjs H39 H34 hR
    go_wp2
    go_loopw [5, 6] (fun vz vk wr => ∃ (k z kd oc' os' : Nat), vz = .int .i64 z ∧ vk = .int .i64 k ∧ k ≤ 7 ∧ Hid (ScB wr p s j K f1 oc' os' T) ∧ Hid (w.grownBy wr (some p)) ∧ Hid (Blk wr A 29 #[.int .i64 kd, .string (s.extract i j), .string ⟨#[]⟩, .int .i64 j]) ∧
      Hid (Blk wr R 29 #[.int .i64 0, .string ⟨#[]⟩, .string ⟨#[]⟩, .int .i64 0]) ∧ Hid (OddInv s.data.toList 39 oc' j ∧ OddInv s.data.toList 34 os' j) ∧
      Hid ((z = 0 ∧ k ≤ 6 ∧ firstT f1 (s.data.toList.drop j) (6 - k) k = (kt, zt)) ∨ (z ≠ 0 ∧ (kd, z) = (kt, zt)))) (fun _ vk _ => 7 - (intOf vk).toNat)
    case atStart => exact ⟨0, 0, 0, oc, os, rfl, rfl, by omega, hS4.out, hG4.out, hB4.out, hR4.out, HO.out, .inl ⟨rfl, by omega, H1ST.out⟩⟩
    case round =>
      clear hS4 hG4 hB4 hR4 HO
      obtain ⟨w6, rfl⟩ : ∃ w6, w6 = wr := ⟨_, rfl⟩
      obtain ⟨k, z, kd, oc', os', rfl, rfl, hk7, hS, hG, hB, hR5, hO, hcase⟩ := hrel
      by_cases hz : z = 0
      · subst hz
        obtain ⟨hk6, hZ⟩ : k ≤ 6 ∧ Hid (firstT f1 (s.data.toList.drop j) (6 - k) k = (kt, zt)) := by
          rcases hcase.out with ⟨_, h1, h2⟩ | ⟨h1, _⟩
          · exact ⟨h1, h2⟩
          · exact absurd rfl h1
        have HLW := Lib.hid (HL.out.grown hG.out)
        have c6 := hS.out.c6
        clear hcase
        rcases (by omega : k = 0 ∨ k = 1 ∨ k = 2 ∨ k = 3 ∨ k = 4 ∨ k = 5 ∨ k = 6) with rfl | rfl | rfl | rfl | rfl | rfl | rfl
        · have tk : w6.cell? ⟨T, 0, none⟩ = some (.func (.func 92) #[.pointer (some ⟨p, 0, none⟩)] #[]) := Blk.cell HLW.out.tell 0
          have CC := line_any p K T oc' os' j f1 s w6 hjlt hs hS.out
          have ht : tellT f1 (s.data.toList.drop j) 0 = lineT f1 (s.data.toList.drop j) := rfl
          generalize lineT f1 (s.data.toList.drop j) = kz at *
          obtain ⟨kk, zz⟩ := kz
          simp only at CC
          have hst := hZ.out
          rw [show 6 - 0 = 5 + 1 from rfl, firstT, ht] at hst
          have HST := Lib.hid hst
          have HCC := Lib.hid CC
          clear CC hst ht hZ
          go_wp2_with fail
          refine HCC.out.mono ?_
          rintro e w7 ⟨rfl, n7, hw7⟩
          have hg7 : w6.grownBy w7 (some p) := by rw [hw7]; exact grownBy_drewN _ _ _
          have hS7 : ScB w7 p s j K f1 oc' os' T := by rw [hw7]; exact hS.out
          clear hw7
          have hB7 := hB.out.kept hg7 (by simp; exact fun e => hpA e.symm)
          have hR7 := hR5.out.kept hg7 (by simp; exact fun e => hpR e.symm)
          have HG7 := Lib.hid (grownBy_trans hG.out hg7)
          have HS7 := Lib.hid hS7
          have HB7 := Lib.hid hB7
          have HR7 := Lib.hid hR7
          have b0 := hB7.cell 0
          have z0 := hB7.frozen 0
          clear hg7 hS7 hB7 hR7 tk c6 hS hB hR5 hG
          go_wp2
          go_roundw
          case rel =>
            refine ⟨1, zz, kk, oc', os', by go_num, by go_num, by omega, HS7.out.other hpA _, grownBy_setNew HG7.out (by have := HRA.out; have := HRA'.out; omega) 0 _, HB7.out.set 0 _, HR7.out.other (fun e => hAR e.symm) _, hO.out, ?_⟩
            have hst := HST.out
            by_cases hz : zz = 0
            · rw [if_neg (by simpa using hz)] at hst
              exact .inl ⟨hz, by omega, hst⟩
            · rw [if_pos hz] at hst
              exact .inr ⟨hz, hst⟩
          case measure => simp [intOf]
        · have tk : w6.cell? ⟨T, 1, none⟩ = some (.func (.func 93) #[.pointer (some ⟨p, 0, none⟩)] #[]) := Blk.cell HLW.out.tell 1
          have CC := word_any p K T oc' os' j f1 s w6 hjlt hs hS.out HLW.out.keys
          have ht : tellT f1 (s.data.toList.drop j) 1 = wordTl (s.data.toList.drop j) := rfl
          generalize wordTl (s.data.toList.drop j) = kz at *
          obtain ⟨kk, zz⟩ := kz
          simp only at CC
          have hst := hZ.out
          rw [show 6 - 1 = 4 + 1 from rfl, firstT, ht] at hst
          have HST := Lib.hid hst
          have HCC := Lib.hid CC
          clear CC hst ht hZ
          go_wp2_with fail
          refine HCC.out.mono ?_
          rintro e w7 ⟨rfl, n7, hw7⟩
          have hg7 : w6.grownBy w7 (some p) := by rw [hw7]; exact grownBy_drewN _ _ _
          have hS7 : ScB w7 p s j K f1 oc' os' T := by rw [hw7]; exact hS.out
          clear hw7
          have hB7 := hB.out.kept hg7 (by simp; exact fun e => hpA e.symm)
          have hR7 := hR5.out.kept hg7 (by simp; exact fun e => hpR e.symm)
          have HG7 := Lib.hid (grownBy_trans hG.out hg7)
          have HS7 := Lib.hid hS7
          have HB7 := Lib.hid hB7
          have HR7 := Lib.hid hR7
          have b0 := hB7.cell 0
          have z0 := hB7.frozen 0
          clear hg7 hS7 hB7 hR7 tk c6 hS hB hR5 hG
          go_wp2
          go_roundw
          case rel =>
            refine ⟨2, zz, kk, oc', os', by go_num, by go_num, by omega, HS7.out.other hpA _, grownBy_setNew HG7.out (by have := HRA.out; have := HRA'.out; omega) 0 _, HB7.out.set 0 _, HR7.out.other (fun e => hAR e.symm) _, hO.out, ?_⟩
            have hst := HST.out
            by_cases hz : zz = 0
            · rw [if_neg (by simpa using hz)] at hst
              exact .inl ⟨hz, by omega, hst⟩
            · rw [if_pos hz] at hst
              exact .inr ⟨hz, hst⟩
          case measure => simp [intOf]
        · have tk : w6.cell? ⟨T, 2, none⟩ = some (.func (.func 94) #[.pointer (some ⟨p, 0, none⟩)] #[]) := Blk.cell HLW.out.tell 2
          have CC := number_any p K T oc' os' j f1 s w6 hjlt hs hS.out
          have ht : tellT f1 (s.data.toList.drop j) 2 = (3, numN (s.data.toList.drop j)) := rfl
          generalize numN (s.data.toList.drop j) = zz at *
          obtain ⟨kk, hkk⟩ : ∃ kk : Nat, kk = 3 := ⟨3, rfl⟩
          have hst := hZ.out
          rw [show 6 - 2 = 3 + 1 from rfl, firstT, ht] at hst
          have HST := Lib.hid hst
          have HCC := Lib.hid CC
          clear CC hst ht hZ
          go_wp2_with fail
          refine HCC.out.mono ?_
          rintro e w7 ⟨rfl, n7, hw7⟩
          have hg7 : w6.grownBy w7 (some p) := by rw [hw7]; exact grownBy_drewN _ _ _
          have hS7 : ScB w7 p s j K f1 oc' os' T := by rw [hw7]; exact hS.out
          clear hw7
          have hB7 := hB.out.kept hg7 (by simp; exact fun e => hpA e.symm)
          have hR7 := hR5.out.kept hg7 (by simp; exact fun e => hpR e.symm)
          have HG7 := Lib.hid (grownBy_trans hG.out hg7)
          have HS7 := Lib.hid hS7
          have HB7 := Lib.hid hB7
          have HR7 := Lib.hid hR7
          have b0 := hB7.cell 0
          have z0 := hB7.frozen 0
          clear hg7 hS7 hB7 hR7 tk c6 hS hB hR5 hG
          subst hkk
          go_wp2
          go_roundw
          case rel =>
            refine ⟨3, zz, 3, oc', os', by go_num, by go_num, by omega, HS7.out.other hpA _, grownBy_setNew HG7.out (by have := HRA.out; have := HRA'.out; omega) 0 _, HB7.out.set 0 _, HR7.out.other (fun e => hAR e.symm) _, hO.out, ?_⟩
            have hst := HST.out
            by_cases hz : zz = 0
            · rw [if_neg (by simpa using hz)] at hst
              exact .inl ⟨hz, by omega, hst⟩
            · rw [if_pos hz] at hst
              exact .inr ⟨hz, hst⟩
          case measure => simp [intOf]
        · have tk : w6.cell? ⟨T, 3, none⟩ = some (.func (.func 95) #[.pointer (some ⟨p, 0, none⟩)] #[]) := Blk.cell HLW.out.tell 3
          have CC := singleQuoted_any p K T oc' os' j f1 s w6 hjlt hs (by have := hO.out.1.1; omega) hS.out
          have hsp := quo_spec hO.out.1 (by rw [hsl]; exact hjlt)
          have ht : tellT f1 (s.data.toList.drop j) 3 = (4, (quoTl 39 oc' j (s.data.toList.drop j)).1) := by rw [hsp.1]; rfl
          generalize (quoTl 39 oc' j (s.data.toList.drop j)).1 = zz at *
          obtain ⟨hsp1, hsp2⟩ := hsp
          generalize (quoTl 39 oc' j (s.data.toList.drop j)).2 = on at *
          obtain ⟨kk, hkk⟩ : ∃ kk : Nat, kk = 4 := ⟨4, rfl⟩
          have HO2 := Lib.hid hsp2
          clear hsp1 hsp2
          have hst := hZ.out
          rw [show 6 - 3 = 2 + 1 from rfl, firstT, ht] at hst
          have HST := Lib.hid hst
          have HCC := Lib.hid CC
          clear CC hst ht hZ
          go_wp2_with fail
          refine HCC.out.mono ?_
          rintro e w7 ⟨rfl, hg7, hS7⟩
          have hB7 := hB.out.kept hg7 (by simp; exact fun e => hpA e.symm)
          have hR7 := hR5.out.kept hg7 (by simp; exact fun e => hpR e.symm)
          have HG7 := Lib.hid (grownBy_trans hG.out hg7)
          have HS7 := Lib.hid hS7
          have HB7 := Lib.hid hB7
          have HR7 := Lib.hid hR7
          have b0 := hB7.cell 0
          have z0 := hB7.frozen 0
          clear hg7 hS7 hB7 hR7 tk c6 hS hB hR5 hG
          subst hkk
          go_wp2
          go_roundw
          case rel =>
            refine ⟨4, zz, 4, on, os', by go_num, by go_num, by omega, HS7.out.other hpA _, grownBy_setNew HG7.out (by have := HRA.out; have := HRA'.out; omega) 0 _, HB7.out.set 0 _, HR7.out.other (fun e => hAR e.symm) _, ⟨HO2.out, hO.out.2⟩, ?_⟩
            have hst := HST.out
            by_cases hz : zz = 0
            · rw [if_neg (by simpa using hz)] at hst
              exact .inl ⟨hz, by omega, hst⟩
            · rw [if_pos hz] at hst
              exact .inr ⟨hz, hst⟩
          case measure => simp [intOf]
        · have tk : w6.cell? ⟨T, 4, none⟩ = some (.func (.func 96) #[.pointer (some ⟨p, 0, none⟩)] #[]) := Blk.cell HLW.out.tell 4
          have CC := doubleQuoted_any p K T oc' os' j f1 s w6 hjlt hs (by have := hO.out.2.1; omega) hS.out
          have hsp := quo_spec hO.out.2 (by rw [hsl]; exact hjlt)
          have ht : tellT f1 (s.data.toList.drop j) 4 = (5, (quoTl 34 os' j (s.data.toList.drop j)).1) := by rw [hsp.1]; rfl
          generalize (quoTl 34 os' j (s.data.toList.drop j)).1 = zz at *
          obtain ⟨hsp1, hsp2⟩ := hsp
          generalize (quoTl 34 os' j (s.data.toList.drop j)).2 = on at *
          obtain ⟨kk, hkk⟩ : ∃ kk : Nat, kk = 5 := ⟨5, rfl⟩
          have HO2 := Lib.hid hsp2
          clear hsp1 hsp2
          have hst := hZ.out
          rw [show 6 - 4 = 1 + 1 from rfl, firstT, ht] at hst
          have HST := Lib.hid hst
          have HCC := Lib.hid CC
          clear CC hst ht hZ
          go_wp2_with fail
          refine HCC.out.mono ?_
          rintro e w7 ⟨rfl, hg7, hS7⟩
          have hB7 := hB.out.kept hg7 (by simp; exact fun e => hpA e.symm)
          have hR7 := hR5.out.kept hg7 (by simp; exact fun e => hpR e.symm)
          have HG7 := Lib.hid (grownBy_trans hG.out hg7)
          have HS7 := Lib.hid hS7
          have HB7 := Lib.hid hB7
          have HR7 := Lib.hid hR7
          have b0 := hB7.cell 0
          have z0 := hB7.frozen 0
          clear hg7 hS7 hB7 hR7 tk c6 hS hB hR5 hG
          subst hkk
          go_wp2
          go_roundw
          case rel =>
            refine ⟨5, zz, 5, oc', on, by go_num, by go_num, by omega, HS7.out.other hpA _, grownBy_setNew HG7.out (by have := HRA.out; have := HRA'.out; omega) 0 _, HB7.out.set 0 _, HR7.out.other (fun e => hAR e.symm) _, ⟨hO.out.1, HO2.out⟩, ?_⟩
            have hst := HST.out
            by_cases hz : zz = 0
            · rw [if_neg (by simpa using hz)] at hst
              exact .inl ⟨hz, by omega, hst⟩
            · rw [if_pos hz] at hst
              exact .inr ⟨hz, hst⟩
          case measure => simp [intOf]
        · have tk : w6.cell? ⟨T, 5, none⟩ = some (.func (.func 97) #[.pointer (some ⟨p, 0, none⟩)] #[]) := Blk.cell HLW.out.tell 5
          have CC := sign_any n0 p K T oc' os' j f1 s w6 hjlt hs hS.out HLW.out.signs
          have ht : tellT f1 (s.data.toList.drop j) 5 = signT (s.data.toList.drop j) := rfl
          generalize signT (s.data.toList.drop j) = kz at *
          obtain ⟨kk, zz⟩ := kz
          simp only at CC
          have hst := hZ.out
          rw [show 6 - 5 = 0 + 1 from rfl, firstT, ht] at hst
          have HST := Lib.hid hst
          have HCC := Lib.hid CC
          clear CC hst ht hZ
          go_wp2_with fail
          refine HCC.out.mono ?_
          rintro e w7 ⟨rfl, n7, hw7⟩
          have hg7 : w6.grownBy w7 (some p) := by rw [hw7]; exact grownBy_drewN _ _ _
          have hS7 : ScB w7 p s j K f1 oc' os' T := by rw [hw7]; exact hS.out
          clear hw7
          have hB7 := hB.out.kept hg7 (by simp; exact fun e => hpA e.symm)
          have hR7 := hR5.out.kept hg7 (by simp; exact fun e => hpR e.symm)
          have HG7 := Lib.hid (grownBy_trans hG.out hg7)
          have HS7 := Lib.hid hS7
          have HB7 := Lib.hid hB7
          have HR7 := Lib.hid hR7
          have b0 := hB7.cell 0
          have z0 := hB7.frozen 0
          clear hg7 hS7 hB7 hR7 tk c6 hS hB hR5 hG
          go_wp2
          go_roundw
          case rel =>
            refine ⟨6, zz, kk, oc', os', by go_num, by go_num, by omega, HS7.out.other hpA _, grownBy_setNew HG7.out (by have := HRA.out; have := HRA'.out; omega) 0 _, HB7.out.set 0 _, HR7.out.other (fun e => hAR e.symm) _, hO.out, ?_⟩
            have hst := HST.out
            by_cases hz : zz = 0
            · rw [if_neg (by simpa using hz)] at hst
              exact .inl ⟨hz, by omega, hst⟩
            · rw [if_pos hz] at hst
              exact .inr ⟨hz, hst⟩
          case measure => simp [intOf]
        · have tk : w6.cell? ⟨T, 6, none⟩ = some (.func (.func 98) #[.pointer (some ⟨p, 0, none⟩)] #[]) := Blk.cell HLW.out.tell 6
          have CC := odd_any p w6
          have ht : tellT f1 (s.data.toList.drop j) 6 = (8, 1) := rfl
          obtain ⟨kk, hkk⟩ : ∃ kk : Nat, kk = 8 := ⟨8, rfl⟩
          obtain ⟨zz, hzz⟩ : ∃ zz : Nat, zz = 1 := ⟨1, rfl⟩
          have hst := hZ.out
          rw [show 6 - 6 = 0 from rfl, firstT, ht] at hst
          have HST := Lib.hid hst
          have HCC := Lib.hid CC
          clear CC hst ht hZ
          go_wp2_with fail
          refine HCC.out.mono ?_
          rintro e w7 ⟨rfl, n7, hw7⟩
          have hg7 : w6.grownBy w7 (some p) := by rw [hw7]; exact grownBy_drewN _ _ _
          have hS7 : ScB w7 p s j K f1 oc' os' T := by rw [hw7]; exact hS.out
          clear hw7
          have hB7 := hB.out.kept hg7 (by simp; exact fun e => hpA e.symm)
          have hR7 := hR5.out.kept hg7 (by simp; exact fun e => hpR e.symm)
          have HG7 := Lib.hid (grownBy_trans hG.out hg7)
          have HS7 := Lib.hid hS7
          have HB7 := Lib.hid hB7
          have HR7 := Lib.hid hR7
          have b0 := hB7.cell 0
          have z0 := hB7.frozen 0
          clear hg7 hS7 hB7 hR7 tk c6 hS hB hR5 hG
          subst hkk hzz
          go_wp2
          go_roundw
          case rel =>
            refine ⟨7, 1, 8, oc', os', by go_num, by go_num, by omega, HS7.out.other hpA _, grownBy_setNew HG7.out (by have := HRA.out; have := HRA'.out; omega) 0 _, HB7.out.set 0 _, HR7.out.other (fun e => hAR e.symm) _, hO.out, ?_⟩
            exact .inr ⟨by decide, HST.out⟩
          case measure => simp [intOf]
      · have hkz2 : kd = kt ∧ z = zt := by
          rcases hcase.out with ⟨h1, _⟩ | ⟨_, h2⟩
          · exact absurd h1 hz
          · simp only [Prod.mk.injEq] at h2; exact h2
        obtain ⟨rfl, rfl⟩ := hkz2
        have hz2 : ¬ ((z : Nat) : Int) = 0 := by omega
        have c1 := hS.out.c1
        have z1 := Blk.frozen hS.out 1
        have z3 := Blk.frozen hS.out 3
        have c3 := hS.out.c3
        have hpl := Blk.lt hS.out
        clear hcase hz
        go_wp2_with fail
        have hS8 : Hid (ScB ((w6.setCell ⟨p, 1, none⟩ (.int .i64 ((j : Int) + (z : Int)))).setCell ⟨p, 3, none⟩ (.bool false)) p s (j + z) K false oc' os' T) := by
          have := (hS.out.setAt (j + z)).setFresh false
          exact this
        have hB8 : Hid (Blk ((w6.setCell ⟨p, 1, none⟩ (.int .i64 ((j : Int) + (z : Int)))).setCell ⟨p, 3, none⟩ (.bool false)) A 29 #[.int .i64 kd, .string (s.extract i j), .string ⟨#[]⟩, .int .i64 j]) := (hB.out.other (fun e => hpA e.symm) _).other (fun e => hpA e.symm) _
        have hR8 : Hid (Blk ((w6.setCell ⟨p, 1, none⟩ (.int .i64 ((j : Int) + (z : Int)))).setCell ⟨p, 3, none⟩ (.bool false)) R 29 #[.int .i64 0, .string ⟨#[]⟩, .string ⟨#[]⟩, .int .i64 0]) := (hR5.out.other (fun e => hpR e.symm) _).other (fun e => hpR e.symm) _
        have hG8 : Hid (w.grownBy ((w6.setCell ⟨p, 1, none⟩ (.int .i64 ((j : Int) + (z : Int)))).setCell ⟨p, 3, none⟩ (.bool false)) (some p)) := grownBy_trans hG.out (grownBy_trans (grownBy_setCellJ w6 p 1 _) (grownBy_setCellJ _ p 3 _))
        clear c1 c3 z1 z3 hS hB hR5 hG hpl
        generalize ((w6.setCell ⟨p, 1, none⟩ (.int .i64 ((j : Int) + (z : Int)))).setCell ⟨p, 3, none⟩ (.bool false)) = w8 at *
        have c0 := hS8.out.c0
        have c1 : w8.cell? ⟨p, 1, none⟩ = some (.int .i64 ((j : Int) + (z : Int))) := hS8.out.c1
        have b2 : w8.cell? ⟨A, 2, none⟩ = some (.string ⟨#[]⟩) := hB8.out.cell 2
        have b3 : w8.cell? ⟨A, 3, none⟩ = some (.int .i64 j) := hB8.out.cell 3
        have e2 := hB8.out.frozen 2
        have q4 : (0 : Int) ≤ j := by omega
        have q5 : (j : Int) ≤ (j : Int) + (z : Int) := by omega
        have q6 : (j : Int) + (z : Int) ≤ s.size := by omega
        have hAl := Blk.lt hB8.out
        have hpl := Blk.lt hS8.out
        go_region
        have hS9 : Hid (ScB ((w8.setCell ⟨A, 2, none⟩ (.string (s.extract j (j + z)))).drew) p s (j + z) K false oc' os' T) := Blk.other hS8.out hpA _
        have hB9 : Hid (Blk ((w8.setCell ⟨A, 2, none⟩ (.string (s.extract j (j + z)))).drew) A 29 #[.int .i64 kd, .string (s.extract i j), .string (s.extract j (j + z)), .int .i64 j]) := Blk.set hB8.out 2 _
        have hR9 : Hid (Blk ((w8.setCell ⟨A, 2, none⟩ (.string (s.extract j (j + z)))).drew) R 29 #[.int .i64 0, .string ⟨#[]⟩, .string ⟨#[]⟩, .int .i64 0]) := Blk.other hR8.out (fun e => hAR e.symm) _
        have hG9 : Hid (w.grownBy ((w8.setCell ⟨A, 2, none⟩ (.string (s.extract j (j + z)))).drew) (some p)) := grownBy_trans (grownBy_setNew hG8.out (by have := HRA.out; have := HRA'.out; omega) 2 _) (grownBy_drewN _ 1 _)
        clear c0 c1 b2 b3 e2 hS8 hB8 hR8 hG8
        generalize ((w8.setCell ⟨A, 2, none⟩ (.string (s.extract j (j + z)))).drew) = w9 at *
        have b0 : w9.cell? ⟨A, 0, none⟩ = some (.int .i64 kd) := hB9.out.cell 0
        have b1 : w9.cell? ⟨A, 1, none⟩ = some (.string (s.extract i j)) := hB9.out.cell 1
        have b2 : w9.cell? ⟨A, 2, none⟩ = some (.string (s.extract j (j + z))) := hB9.out.cell 2
        have b3 : w9.cell? ⟨A, 3, none⟩ = some (.int .i64 j) := hB9.out.cell 3
        have r0 := hR9.out.cell 0
        have r1 := hR9.out.cell 1
        have r2 := hR9.out.cell 2
        have r3 := hR9.out.cell 3
        have e0 := hR9.out.frozen 0
        have e1 := hR9.out.frozen 1
        have e2 := hR9.out.frozen 2
        have e3 := hR9.out.frozen 3
        go_wp2
        try simp only [Exit.inBlock, Exit.then]
        refine bodyPost_ret (v := tokV kd (s.extract i j) (s.extract j (j + z)) j) ?_ rfl ?_
        · rw [results_cell1 rfl]
          unfold tokV
          go_simp
        · have hR := HRA'.out
          rw [HKZ.out]
          refine ⟨grownBy_setNew (grownBy_setNew (grownBy_setNew (grownBy_setNew hG9.out (Nat.le_of_eq hR) 0 _) (Nat.le_of_eq hR) 1 _) (Nat.le_of_eq hR) 2 _) (Nat.le_of_eq hR) 3 _, hjl, .inr ⟨hjlt, rfl, oc', os', ?_, hO.out.1, hO.out.2⟩⟩
          exact (((hS9.out.other hpR _).other hpR _).other hpR _).other hpR _

end Go.Proofs.YtjdpkhjoecfhlaaGreatDoor
