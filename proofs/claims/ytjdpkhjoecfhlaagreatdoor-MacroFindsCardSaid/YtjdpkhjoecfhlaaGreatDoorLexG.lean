/- Lex: a new scanner; Scan. -/
import Derived.Test.YtjdpkhjoecfhlaaGreatDoorLexR
import Derived.Deep.RegionHeld3
import Derived.Maps.AppendAt
import Derived.Deep.AppendLies
namespace Go.Proofs.YtjdpkhjoecfhlaaGreatDoor
open Go.RowKit Go.Maps Go.Shelf

set_option maxHeartbeats 8000000 in
set_option maxRecDepth 100000 in
theorem newScanner_any (n0 : Nat) (s : ByteArray) (w : World) (hn : n0 ≤ w.heap.size) (hk : WordsAt w n0 0 keysB) (hs : WordsAt w n0 1 signsB)
    (hm0 : 2 < n0) (m : Int) (hm : w.cell? ⟨2, 0, none⟩ = some (.int .i64 m)) :
    Calls Tryz.prog 66 #[.string s] w fun e w' => ∃ p K T, e = .returned (.pointer (some ⟨p, 0, none⟩)) ∧ w.heap.size ≤ p ∧ ScB w' p s 0 K true 0 0 T ∧ LexW n0 p K T w' ∧ Below w.heap.size w w' := by
  have hmf : ∀ (fn : Fn) (first cap : Array Value) (w : World), (Instr.makeFunc fn first cap).run Tryz.prog w = .ok (.func fn first cap) w := fun _ _ _ _ => rfl
  have CK := keySet_any n0 w hn hk
  have HCK := Lib.hid CK
  have HS := Lib.hid hs
  have HM := Lib.hid hm
  clear CK hk hs hm
  go_enter Tryz.func66, Tryz.ntmps66
  go_wp2_with fail
  refine HCK.out.mono ?_
  rintro e w1 ⟨rfl, hK1, hb1⟩
  have hK := Lib.hid hK1
  have hB := Lib.hid hb1
  have hlt : w.heap.size < w1.heap.size := hK1.lt
  clear hK1 hb1 HCK
  go_wp2
  go_ret
  have g1 : w1.grownBy (w1.alloc (.cells #[.string s, .int .i64 0, .map (some w.heap.size), .bool true, .int .i64 0, .int .i64 0, .slice (some ⟨w1.heap.size + 1, 0, none⟩) 7 7] 164)) none := World.grownBy_alloc _ _ _
  have hb2 : Below n0 w1 (w1.alloc (.cells #[.string s, .int .i64 0, .map (some w.heap.size), .bool true, .int .i64 0, .int .i64 0, .slice (some ⟨w1.heap.size + 1, 0, none⟩) 7 7] 164)) := (Below.refl _ _).alloc (by omega) _
  refine ⟨w1.heap.size, w.heap.size, w1.heap.size + 1, rfl, by omega, ?_, ⟨by omega, by simp; omega, by omega, by omega, ?_, ?_, ?_, hm0, m, ?_⟩, ?_⟩
  · exact Blk.alloc (Blk.new w1 _ _) _
  · exact KeySet.kept (KeySet.kept hK.out g1 (by simp)) (World.grownBy_alloc _ _ none) (by simp)
  · have := Blk.new (w1.alloc (.cells #[.string s, .int .i64 0, .map (some w.heap.size), .bool true, .int .i64 0, .int .i64 0, .slice (some ⟨w1.heap.size + 1, 0, none⟩) 7 7] 164)) 165 #[.func (.func 92) #[.pointer (some ⟨w1.heap.size, 0, none⟩)] #[], .func (.func 93) #[.pointer (some ⟨w1.heap.size, 0, none⟩)] #[], .func (.func 94) #[.pointer (some ⟨w1.heap.size, 0, none⟩)] #[],
  .func (.func 95) #[.pointer (some ⟨w1.heap.size, 0, none⟩)] #[], .func (.func 96) #[.pointer (some ⟨w1.heap.size, 0, none⟩)] #[], .func (.func 97) #[.pointer (some ⟨w1.heap.size, 0, none⟩)] #[], .func (.func 98) #[.pointer (some ⟨w1.heap.size, 0, none⟩)] #[]]
    rw [World.size_alloc] at this
    exact this
  · exact ((HS.out.below (hB.out.mono hn)).below hb2).below ((Below.refl _ _).alloc (by simp; omega) _)
  · have h1 := (hB.out.cell (p := ⟨2, 0, none⟩) (by simp; omega)).trans HM.out
    exact (World.grownBy_alloc _ _ none).cell (g1.cell h1 (by simp)) (by simp)
  · exact (hB.out.alloc (by omega) _).alloc (by simp; omega) _

theorem infoTk : (Tryz.prog.info? 29).map (fun i => (i.zero, i.size, i.bytes)) = some (some (.agg #[.int .i64 0, .string ⟨#[]⟩, .string ⟨#[]⟩, .int .i64 0]), 4, 48) := by kernel_rfl

/-- what all of lex leans on -/
structure LexG (n0 : Nat) (w : World) : Prop where
  le : n0 ≤ w.heap.size
  keys : WordsAt w n0 0 keysB
  signs : WordsAt w n0 1 signsB
  maxN : 2 < n0
  maxV : ∃ m, w.cell? ⟨2, 0, none⟩ = some (.int .i64 m)
theorem LexG.below {n0 : Nat} {w w' : World} (h : LexG n0 w) (hb : Below w.heap.size w w') : LexG n0 w' :=
  ⟨Nat.le_trans h.le hb.size, h.keys.below (hb.mono h.le), h.signs.below (hb.mono h.le), h.maxN, by
    obtain ⟨m, hm⟩ := h.maxV
    exact ⟨m, (hb.cell (p := ⟨2, 0, none⟩) (Nat.lt_of_lt_of_le h.maxN h.le)).trans hm⟩⟩

theorem Blk.news {w : World} {B : Nat} {t : TypeId} {cs : Array Value} (h : Blk w B t cs) : ∀ (j : Nat) (u : Value), cs.toList[j]? = some u → w.cell? ((⟨B, 0, none⟩ : Addr).add j) = some u := fun j u hu => by
  rw [Addr.add_lit, Nat.zero_add, h.cell]
  simpa using hu

theorem LexW.below {n0 p K T B : Nat} {w w' : World} (h : LexW n0 p K T w) (hb : Below B w w') (hp : p < B) (hK : K < B) (hT : T < B) : LexW n0 p K T w' :=
  ⟨h.np, Nat.lt_of_lt_of_le h.plt hb.size, h.pK, h.pT, by obtain ⟨es, clock, h1, r⟩ := h.keys; exact ⟨es, clock, (hb.block K hK).trans h1, r⟩, Blk.below h.tell hb hT,
    h.signs.below (hb.mono (by have := h.np; omega)), h.maxN, by
      obtain ⟨m, hm⟩ := h.maxV
      exact ⟨m, (hb.cell (p := ⟨2, 0, none⟩) (by have := h.maxN; have := h.np; simp; omega)).trans hm⟩⟩

theorem own_baseL {w : World} {b b' : Nat} {e : TypeId} {k n : Nat} {v : Value} {xs : List Value} (h : w.ownsRow b e k v n xs) (hb : b' ≤ b) : w.ownsRow b' e k v n xs := by
  refine ⟨h.1, ?_⟩
  rcases h.2 with h2 | ⟨g, cap, cur, e1, h3, r⟩
  · exact .inl h2
  · exact .inr ⟨g, cap, cur, e1, Nat.le_trans hb h3, r⟩
theorem own_kept_p {w w' : World} {b p : Nat} {e : TypeId} {k n : Nat} {v : Value} {xs : List Value} (h : w.ownsRow b e k v n xs) (hp : p < b) (hg : w.grownBy w' (some p)) : w'.ownsRow b e k v n xs := by
  refine h.kept hg ?_
  rcases h.2 with ⟨h2, _⟩ | ⟨g, cap, cur, e1, h3, r⟩
  · exact .inl (by rw [h2]; rfl)
  · refine .inr ?_
    rw [e1]
    simp [Value.ownBlock]
    omega

set_option maxHeartbeats 8000000 in
set_option maxRecDepth 100000 in
theorem scan_any (n0 : Nat) (s : ByteArray) (w : World) (hG : LexG n0 w) :
    Calls Tryz.prog 37 #[.string s] w fun e w' => ∃ v, e = .returned (.tuple #[v, .int .i64 (scanE s)]) ∧ w'.ownsRow w.heap.size 29 4 v (scanL s).length (cellsT (scanL s)) ∧ Below w.heap.size w w' := by
  obtain ⟨i0, hi, hz0, hz1, hz2⟩ := info_parts infoTk
  by_cases hs : s.size ≤ 200000
  · obtain ⟨m, hm⟩ := hG.maxV
    have NS := newScanner_any n0 s w hG.le hG.keys hG.signs hG.maxN m hm
    have HNS := Lib.hid NS
    have hn0 := Lib.hid hG.le
    have q0 : ¬ (200000 : Int) < s.size := by omega
    have HSZ := Lib.hid hs
    clear NS hm hs
    go_enter Tryz.func37, Tryz.ntmps37
    go_wp2_with fail
    refine HNS.out.mono ?_
    rintro e w1 ⟨p, K, T, rfl, hpw, hS1, hL1, hb1⟩
    have HPW := Lib.hid hpw
    have HKT := Lib.hid (And.intro hL1.keys.lt (Blk.lt hL1.tell))
    have HS1 := Lib.hid hS1
    have HL1 := Lib.hid hL1
    have HB1 := Lib.hid hb1
    have hp1 := hL1.plt
    clear hS1 hL1 hb1 HNS hpw
    go_wp2_with fail
    go_loopw [5, 6] (fun v _ wr => ∃ (acc : List Tk) (i : Nat) (f : Bool) (oc os : Nat), Hid (wr.ownsRow w1.heap.size 29 4 v acc.length (cellsT acc)) ∧ Hid (acc.length ≤ 40000) ∧ i ≤ s.size ∧ Hid (ScB wr p s i K f oc os T) ∧ Hid (LexW n0 p K T wr) ∧
      Hid (OddInv s.data.toList 39 oc i ∧ OddInv s.data.toList 34 os i) ∧ Hid (acc ++ tokR f i (s.data.toList.drop i) = tokR true 0 s.data.toList) ∧ Hid (Below w.heap.size w wr) ∧ Hid (w1.heap.size ≤ wr.heap.size) ∧ Hid (∃ A c, v = .slice A acc.length c)) (fun v _ _ => match v with | .slice _ n _ => 40000 - n | _ => 0)
    case atStart => exact ⟨[], 0, true, 0, 0, World.ownsRow_nil _ _ _ _, Nat.zero_le _, Nat.zero_le _, HS1.out, HL1.out, ⟨OddInv.zero _ _ _, OddInv.zero _ _ _⟩, rfl, HB1.out, Nat.le_refl _, ⟨none, 0, rfl⟩⟩
    case round =>
      obtain ⟨acc, i, f, oc, os, hO, hacc, hi2, hS, hLW, hOd, hT, hB, hw1, hform⟩ := hrel
      obtain ⟨A, c, rfl⟩ := hform.out
      by_cases hlt : acc.length < 40000
      · have q1 : (acc.length : Int) < 40000 := by omega
        obtain ⟨j, hj⟩ : ∃ j, j = i + (skipF f (s.data.toList.drop i)).1 := ⟨_, rfl⟩
        obtain ⟨f1, hf1⟩ : ∃ g, g = (skipF f (s.data.toList.drop i)).2 := ⟨_, rfl⟩
        have NX := next_any n0 p K T oc os i f s wr hi2 (by have := HSZ.out; omega) hS.out hLW.out hOd.out.1 hOd.out.2 j f1 hj hf1
        have HJ := Lib.hid hj
        have HF1 := Lib.hid hf1
        have htk := tokR_step f i (s.data.toList.drop i)
        have HTK := Lib.hid htk
        clear hj hf1 htk
        simp only [tokV] at NX
        have HNX := Lib.hid NX
        clear NX
        go_wp2_with fail
        refine HNX.out.mono ?_
        rintro e w2 ⟨hg2, hjl, hcase⟩
        have HO2 := Lib.hid (own_kept_p hO.out hp1 hg2)
        have HB2 := Lib.hid (hB.out.trans (below_grown hg2 HPW.out (by have := HB1.out.size; have := hw1.out; omega)))
        have HL2 := Lib.hid (hLW.out.grown hg2)
        have HG2s := hg2.size
        clear hg2 hO hB hLW hS hOd HNX
        rcases hcase with ⟨hje, rfl, hS2⟩ | ⟨hjlt, rfl, oc', os', hS2, ho1, ho2⟩
        · have HJE := Lib.hid hje
          have HS2 := Lib.hid hS2
          have HLT := Lib.hid hlt
          clear hje hS2 hjl hlt q1
          have hnw : ∀ j2 u, (#[.int .i64 0, .string (s.extract i j), .string ⟨#[]⟩, .int .i64 j] : Array Value).toList[j2]? = some u → ((w2.alloc (.cells #[.int .i64 0, .string (s.extract i j), .string ⟨#[]⟩, .int .i64 j] 29)).alloc (.cells #[.int .i64 0, .string (s.extract i j), .string ⟨#[]⟩, .int .i64 j] 29)).cell? ((⟨w2.heap.size + 1, 0, none⟩ : Addr).add j2) = some u := by
            have := Blk.news (Blk.new (w2.alloc (.cells #[.int .i64 0, .string (s.extract i j), .string ⟨#[]⟩, .int .i64 j] 29)) 29 #[.int .i64 0, .string (s.extract i j), .string ⟨#[]⟩, .int .i64 j])
            rw [World.size_alloc] at this
            exact this
          have HNW := Lib.hid hnw
          have hc6 : ((w2.alloc (.cells #[.int .i64 0, .string (s.extract i j), .string ⟨#[]⟩, .int .i64 j] 29)).alloc (.cells #[.int .i64 0, .string (s.extract i j), .string ⟨#[]⟩, .int .i64 j] 29)).cell? ⟨w2.heap.size, 0, none⟩ = some (.int .i64 0) := Blk.cell (Blk.alloc (Blk.new w2 _ _) _) 0
          have HC6 := Lib.hid hc6
          clear hnw hc6
          go_wp2_with (at_builtin; refine wpList_append_own _ rfl (.tmp 17) (.tmp 19) 22 rfl w1.heap.size 29 i0 _ 4 48 Tryz.underlying22 hi hz0 hz1 hz2 rfl (by decide) _ acc.length (cellsT acc) rfl ((HO2.out.alloc _).alloc _) ⟨w2.heap.size + 1, 0, none⟩ 1 1 [.int .i64 0, .string (s.extract i j), .string ⟨#[]⟩, .int .i64 j] rfl rfl HNW.out (by simp [Value.oneCell']) (by have := HLT.out; unfold maxLen; omega) (by have := HLT.out; omega) (by have := hw1.out; simp; omega) ?_; intro v' w5 hown' hgr _; obtain ⟨g, cap, rfl, hgb, hglt⟩ := hown'.form (by omega); have c6 := World.grownBy.cell hgr HC6.out (fun e => Nat.lt_irrefl _ (HO2.out.lt _ e.symm).2); have HOW := Lib.hid hown'; have HGR := Lib.hid hgr; clear hown' hgr hgb hglt)
          go_wp2
          go_ret2
          have hk := HTK.out
          have hlen : (s.data.toList.drop i).length ≤ (skipF f (s.data.toList.drop i)).1 := by
            have := HJ.out; have := HJE.out; rw [List.length_drop]; simp; omega
          rw [if_pos hlen] at hk
          have htot := hT.out
          rw [hk] at htot
          have hlt := HLT.out
          have hlt2 : (tokR true 0 s.data.toList).length ≤ 40000 := by rw [← htot, List.length_append]; simp; omega
          have hok : scanOk s = true := by unfold scanOk; rw [decide_eq_true HSZ.out, decide_eq_true hlt2]; rfl
          have hcl : (endTk f i (s.data.toList.drop i)).cells = [.int .i64 0, .string (s.extract i j), .string ⟨#[]⟩, .int .i64 j] := by
            rw [HJ.out, ext_mid]; rfl
          refine ⟨_, by unfold scanE; rw [if_pos hok]; rfl, ?_, (((HB2.out.alloc HB2.out.size _).alloc (by have := HB2.out.size; simp; omega) _).grown HGR.out (by have := HB2.out.size; simp; omega) (fun k e => by have := (HO2.out.lt k e).1; have := HB1.out.size; omega))⟩
          unfold scanL
          rw [if_pos hok, ← htot, cellsT_append, show cellsT [endTk f i (s.data.toList.drop i)] = (endTk f i (s.data.toList.drop i)).cells by simp [cellsT], hcl, List.length_append]
          exact own_baseL HOW.out HB1.out.size
        · have HJL := Lib.hid hjlt
          have HS2 := Lib.hid hS2
          have HOD := Lib.hid (And.intro ho1 ho2)
          have HLT := Lib.hid hlt
          have hkd := tokF_kind f1 (s.data.toList.drop j)
          obtain ⟨kd, hkd2⟩ : ∃ k, k = tokF f1 (s.data.toList.drop j) := ⟨_, rfl⟩
          have HKD := Lib.hid hkd2
          rw [← hkd2] at hkd HS2 ⊢
          obtain ⟨kk, zz⟩ := kd
          simp only at hkd HS2 ⊢
          have hk0 : ¬ ((kk : Nat) : Int) = 0 := by omega
          clear hjlt hS2 ho1 ho2 hjl hlt q1 hkd hkd2
          have hnw : ∀ j2 u, (#[.int .i64 kk, .string (s.extract i j), .string (s.extract j (j + zz)), .int .i64 j] : Array Value).toList[j2]? = some u → ((w2.alloc (.cells #[.int .i64 kk, .string (s.extract i j), .string (s.extract j (j + zz)), .int .i64 j] 29)).alloc (.cells #[.int .i64 kk, .string (s.extract i j), .string (s.extract j (j + zz)), .int .i64 j] 29)).cell? ((⟨w2.heap.size + 1, 0, none⟩ : Addr).add j2) = some u := by
            have := Blk.news (Blk.new (w2.alloc (.cells #[.int .i64 kk, .string (s.extract i j), .string (s.extract j (j + zz)), .int .i64 j] 29)) 29 #[.int .i64 kk, .string (s.extract i j), .string (s.extract j (j + zz)), .int .i64 j])
            rw [World.size_alloc] at this
            exact this
          have HNW := Lib.hid hnw
          have hc6 : ((w2.alloc (.cells #[.int .i64 kk, .string (s.extract i j), .string (s.extract j (j + zz)), .int .i64 j] 29)).alloc (.cells #[.int .i64 kk, .string (s.extract i j), .string (s.extract j (j + zz)), .int .i64 j] 29)).cell? ⟨w2.heap.size, 0, none⟩ = some (.int .i64 kk) := Blk.cell (Blk.alloc (Blk.new w2 _ _) _) 0
          have HC6 := Lib.hid hc6
          clear hnw hc6
          go_wp2_with (at_builtin; refine wpList_append_own _ rfl (.tmp 17) (.tmp 19) 22 rfl w1.heap.size 29 i0 _ 4 48 Tryz.underlying22 hi hz0 hz1 hz2 rfl (by decide) _ acc.length (cellsT acc) rfl ((HO2.out.alloc _).alloc _) ⟨w2.heap.size + 1, 0, none⟩ 1 1 [.int .i64 kk, .string (s.extract i j), .string (s.extract j (j + zz)), .int .i64 j] rfl rfl HNW.out (by simp [Value.oneCell']) (by have := HLT.out; unfold maxLen; omega) (by have := HLT.out; omega) (by have := hw1.out; simp; omega) ?_; intro v' w5 hown' hgr _; obtain ⟨g, cap, rfl, hgb, hglt⟩ := hown'.form (by omega); have c6 := World.grownBy.cell hgr HC6.out (fun e => Nat.lt_irrefl _ (HO2.out.lt _ e.symm).2); have HOW := Lib.hid hown'; have HGR := Lib.hid hgr; clear hown' hgr hgb hglt)
          go_wp2
          go_roundw
          case rel =>
            have hk := HTK.out
            have hlen : ¬ (s.data.toList.drop i).length ≤ (skipF f (s.data.toList.drop i)).1 := by
              have := HJ.out; have := HJL.out; rw [List.length_drop]; simp; omega
            have hdd : (s.data.toList.drop i).drop (skipF f (s.data.toList.drop i)).1 = s.data.toList.drop j := by rw [List.drop_drop, ← HJ.out]
            have htf : theTk f i (s.data.toList.drop i) = ⟨kk, s.extract i j, s.extract j (j + zz), j⟩ := by
              unfold theTk
              rw [hdd, ← HF1.out, ← HKD.out]
              have e1 := HJ.out
              simp only [Tk.mk.injEq, true_and]
              refine ⟨?_, ?_, e1.symm⟩
              · rw [e1, ext_mid]
              · rw [ext_mid]
            rw [if_neg hlen, htf, hdd, ← HF1.out, ← HKD.out, ← HJ.out, List.drop_drop] at hk
            have htot := hT.out
            rw [hk] at htot
            have hle := tokF_le f1 (s.data.toList.drop j) (List.ne_nil_of_length_pos (by rw [List.length_drop]; have := HJL.out; simp; omega))
            rw [← HKD.out, List.length_drop] at hle
            have hlt := HLT.out
            have hB25 : Below w1.heap.size w2 w5 := (((Below.refl _ w2).alloc (by have := hw1.out; omega) _).alloc (by have := hw1.out; simp; omega) _).grown HGR.out (by have := hw1.out; simp; omega) (fun k e => (HO2.out.lt k e).1)
            have hcl : cellsT acc ++ [.int .i64 kk, .string (s.extract i j), .string (s.extract j (j + zz)), .int .i64 j] = cellsT (acc ++ [(⟨kk, s.extract i j, s.extract j (j + zz), j⟩ : Tk)]) := by rw [cellsT_append]; simp [cellsT, Tk.cells]
            have hOw := HOW.out
            rw [hcl] at hOw
            refine ⟨acc ++ [⟨kk, s.extract i j, s.extract j (j + zz), j⟩], j + zz, false, oc', os', ?_, ?_, by have := HJL.out; simp at hle; omega, Blk.below HS2.out hB25 hp1, HL2.out.below hB25 hp1 HKT.out.1 HKT.out.2, ⟨HOD.out.1.mono (by omega), HOD.out.2.mono (by omega)⟩, ?_, HB2.out.trans (hB25.mono HB1.out.size), Nat.le_trans hw1.out (Nat.le_trans HG2s hB25.size), ⟨some ⟨g, 0, none⟩, cap, by simp⟩⟩
            · unfold Hid; rw [List.length_append]; exact hOw
            · unfold Hid; rw [List.length_append]; simp; omega
            · unfold Hid; rw [List.append_assoc]; exact htot
          case measure => have := HLT.out; simp; omega
      · have hge : (tokR true 0 s.data.toList).length ≤ 40000 → False := fun h => by
          rw [← hT.out, List.length_append] at h
          have := List.length_pos_iff.2 (tokR_ne f i (s.data.toList.drop i))
          omega
        have hok : scanOk s = false := by
          unfold scanOk
          rw [decide_eq_false hge, Bool.and_false]
        have E2 : Hid (scanE s = 2) := by unfold Hid scanE; rw [hok]; rfl
        have E3 : Hid (scanL s = []) := by unfold Hid scanL; rw [hok]; rfl
        have q1 : ¬ (acc.length : Int) < 40000 := by omega
        clear hok hge hlt
        go_wp2
        go_ret2
        exact ⟨_, by rw [E2.out]; rfl, by rw [E3.out]; exact World.ownsRow_nil _ _ _ _, hB.out⟩
  · have e1 : scanOk s = false := by unfold scanOk; rw [decide_eq_false hs]; rfl
    have e2 : scanE s = 2 := by unfold scanE; rw [e1]; rfl
    have e3 : scanL s = [] := by unfold scanL; rw [e1]; rfl
    have E2 := Lib.hid e2
    have E3 := Lib.hid e3
    have q0 : (200000 : Int) < s.size := by omega
    clear hs e1 e2 e3
    go_enter Tryz.func37, Tryz.ntmps37
    go_wp2
    go_ret2
    exact ⟨_, by rw [E2.out]; rfl, by rw [E3.out]; exact World.ownsRow_nil _ _ _ _, Below.refl _ _⟩

end Go.Proofs.YtjdpkhjoecfhlaaGreatDoor
