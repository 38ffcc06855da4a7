/- A line that begins no hunk is refused: readHead, hunk, readHunks, Patch, Reverse. -/
import Derived.Test.YtcbmkkndbeiknaaGreatDoorRead
import Derived.Test.YtcbmkkndbeiknaaGreatDoorBlk
import Derived.Test.YtcbmkkndbeiknaaGreatDoorDiff
namespace Go.Proofs.YtcbmkkndbeiknaaGreatDoor
open Go.RowKit Go.Maps

theorem results_cell2_tmp {fn : Func} {p q u : Tmp} {ty tz : TypeId} (h : fn.results = #[.cell p ty, .cell q tz, .tmp u]) (tmps : Array Value) (P : Program) (w : World) :
    (results fn tmps).run P w =
      ((asAddr (tmps.getD p undef)).run P w).andThen fun a w₁ => ((loadVar ty a).run P w₁).andThen fun v w₂ =>
        ((asAddr (tmps.getD q undef)).run P w₂).andThen fun b w₃ => ((loadVar tz b).run P w₃).andThen fun v' w₄ => .ok (.tuple #[v, v', tmps.getD u undef]) w₄ := by
  simp only [results, h]
  simp [Sem.run_bind, Result.andThen]

set_option maxHeartbeats 4000000 in
set_option maxRecDepth 100000 in
theorem readHead_bad (hI : ∀ (s : ByteArray) (c : UInt8) W, Calls Tryz.prog 145 #[.string s, .string ⟨#[c]⟩] W fun e w' => e = .returned (.int .i64 (Lib.indexByte s.data.toList c)) ∧ w' = W)
    (hP : ∀ (s p : ByteArray) W, Calls Tryz.prog 139 #[.string s, .string p] W fun e w' => e = .returned (.bool (Lib.hasPrefix s.data.toList p.data.toList)) ∧ w' = W)
    (hS : ∀ (s p : ByteArray) W, s.size ≤ 8000000 → Calls Tryz.prog 91 #[.string s, .string p] W fun e w' => e = .returned (.bool (Lib.hasSuffix s.data.toList p.data.toList)) ∧ w' = W)
    (s : ByteArray) (w : World) (hs : s.size ≤ 8000000) (hno : Lib.hasPrefix s.data.toList [64, 64, 32] = false) :
    Calls Tryz.prog 68 #[.string s] w fun e w' => (∃ a b c d, e = .returned (.tuple #[.agg #[.int .i64 a, .int .i64 b], .agg #[.int .i64 c, .int .i64 d], .bool false])) ∧ Below w.heap.size w w' := by
  have C1 := fun W => cutPrefix_any s ⟨#[64, 64, 32]⟩ (hP _ _) hs W
  rw [show Lib.hasPrefix s.data.toList (ByteArray.mk #[64, 64, 32]).data.toList = false from hno] at C1
  have z1 := preR_le s ⟨#[64, 64, 32]⟩
  generalize preR s ⟨#[64, 64, 32]⟩ = s1 at *
  have C2 := fun W => cutSuffix_any s1 ⟨#[32, 64, 64, 10]⟩ (fun W => hS _ _ W (by omega)) (by omega) W
  have z2 := sufR_le s1 ⟨#[32, 64, 64, 10]⟩
  generalize sufR s1 ⟨#[32, 64, 64, 10]⟩ = s2 at *
  generalize Lib.hasSuffix s1.data.toList (ByteArray.mk #[32, 64, 64, 10]).data.toList = b2 at *
  have C3 := fun W => cut_any s2 32 (hI _ _) (by omega) W
  have z3 := cutL_le s2 32
  have z4 := cutR_le s2 32
  generalize cutL s2 32 = l at *
  generalize cutR s2 32 = r at *
  generalize cutB s2 32 = b3 at *
  have R1 := fun W => readSpan_any hI l W (by omega)
  have R2 := fun W => readSpan_any hI r W (by omega)
  generalize spnF l = f1 at *
  generalize spnN l = n1 at *
  generalize spnOk l = o1 at *
  generalize spnF r = f2 at *
  generalize spnN r = n2 at *
  generalize spnOk r = o2 at *
  have HC1 := Lib.hid C1
  have HC2 := Lib.hid C2
  have HC3 := Lib.hid C3
  have HR1 := Lib.hid R1
  have HR2 := Lib.hid R2
  clear C1 C2 C3 R1 R2 hI hP hS hno z1 z2 z3 z4
  go_enter Tryz.func68, Tryz.ntmps68
  go_wp2_with fail
  refine (HC1.out _).mono ?_
  rintro e w1 ⟨rfl, m1, rfl⟩
  go_wp2_with fail
  refine (HC2.out _).mono ?_
  rintro e w2 ⟨rfl, m2, rfl⟩
  go_wp2_with fail
  refine (HC3.out _).mono ?_
  rintro e w3 ⟨rfl, m3, rfl⟩
  have kA : Blk ((((w.alloc (.cells #[.int .i64 0, .int .i64 0] 122)).alloc (.cells #[.int .i64 0, .int .i64 0] 122)).drewN (m1 + m2)).drewN m3) w.heap.size 122 #[.int .i64 0, .int .i64 0] := (Blk.new w _ _).alloc _
  have kB : Blk ((((w.alloc (.cells #[.int .i64 0, .int .i64 0] 122)).alloc (.cells #[.int .i64 0, .int .i64 0] 122)).drewN (m1 + m2)).drewN m3) (w.heap.size + 1) 122 #[.int .i64 0, .int .i64 0] := by
    have := Blk.new (w.alloc (.cells #[.int .i64 0, .int .i64 0] 122)) 122 #[.int .i64 0, .int .i64 0]
    rw [World.size_alloc] at this
    exact this
  have hb : Below w.heap.size w ((((w.alloc (.cells #[.int .i64 0, .int .i64 0] 122)).alloc (.cells #[.int .i64 0, .int .i64 0] 122)).drewN (m1 + m2)).drewN m3) :=
    below_dN (below_dN (((Below.refl _ _).alloc (Nat.le_refl _) _).alloc (by simp) _) _) _
  have hz : w.heap.size + 2 ≤ ((((w.alloc (.cells #[.int .i64 0, .int .i64 0] 122)).alloc (.cells #[.int .i64 0, .int .i64 0] 122)).drewN (m1 + m2)).drewN m3).heap.size := by
    simp [World.drewN]
  generalize ((((w.alloc (.cells #[.int .i64 0, .int .i64 0] 122)).alloc (.cells #[.int .i64 0, .int .i64 0] 122)).drewN (m1 + m2)).drewN m3) = W3 at *
  have HKA := Lib.hid kA
  have HKB := Lib.hid kB
  have HB := Lib.hid hb
  have HZ := Lib.hid hz
  clear kA kB hb hz
  go_wp2_with fail
  refine (HR1.out _).mono ?_
  rintro e w4 ⟨rfl, hb4⟩
  have hb4' := Lib.hid hb4
  have HB4 := Lib.hid (HB.out.trans (hb4.mono HB.out.size))
  have kA := Blk.below HKA.out hb4 HKA.out.lt
  have kB := Blk.below HKB.out hb4 HKB.out.lt
  have HKA4 := Lib.hid kA
  have HKB4 := Lib.hid kB
  have cA0 := kA.cell 0
  have cA1 := kA.cell 1
  have fA0 := kA.frozen 0
  have fA1 := kA.frozen 1
  clear kA kB hb4 HKA HKB HB
  go_wp2_with fail
  refine (HR2.out _).mono ?_
  rintro e w5 ⟨rfl, hb5⟩
  have kA5 : Blk w5 w.heap.size 122 #[.int .i64 f1, .int .i64 n1] := Blk.below ((HKA4.out.set 0 (.int .i64 f1)).set 1 (.int .i64 n1)) hb5 (((HKA4.out.set 0 (.int .i64 f1)).set 1 (.int .i64 n1)).lt)
  have kB5 : Blk w5 (w.heap.size + 1) 122 #[.int .i64 0, .int .i64 0] := Blk.below ((HKB4.out.other (a := ⟨w.heap.size, 0, none⟩) (by simp) (.int .i64 f1)).other (a := ⟨w.heap.size, 1, none⟩) (by simp) (.int .i64 n1)) hb5 (((HKB4.out.other (a := ⟨w.heap.size, 0, none⟩) (by simp) (.int .i64 f1)).other (a := ⟨w.heap.size, 1, none⟩) (by simp) (.int .i64 n1)).lt)
  have HB5 := Lib.hid (((HB4.out.setCell (p := ⟨w.heap.size, 0, none⟩) (Nat.le_refl _) (.int .i64 f1)).setCell (p := ⟨w.heap.size, 1, none⟩) (Nat.le_refl _) (.int .i64 n1)).trans (hb5.mono (by have := ((HB4.out.setCell (p := ⟨w.heap.size, 0, none⟩) (Nat.le_refl _) (.int .i64 f1)).setCell (p := ⟨w.heap.size, 1, none⟩) (Nat.le_refl _) (.int .i64 n1)).size; exact this)))
  have HKA5 := Lib.hid kA5
  have HKB5 := Lib.hid kB5
  have fB0 := kB5.frozen 0
  have fB1 := kB5.frozen 1
  have cB0 := kB5.cell 0
  have cB1 := kB5.cell 1
  clear kA5 kB5 hb5 HKA4 HKB4 HB4 cA0 cA1 fA0 fA1 hb4'
  go_wp2_with fail
  have kA6 : Blk ((w5.setCell ⟨w.heap.size + 1, 0, none⟩ (.int .i64 f2)).setCell ⟨w.heap.size + 1, 1, none⟩ (.int .i64 n2)) w.heap.size 122 #[.int .i64 f1, .int .i64 n1] := (HKA5.out.other (a := ⟨w.heap.size + 1, 0, none⟩) (by simp) _).other (a := ⟨w.heap.size + 1, 1, none⟩) (by simp) _
  have kB6 : Blk ((w5.setCell ⟨w.heap.size + 1, 0, none⟩ (.int .i64 f2)).setCell ⟨w.heap.size + 1, 1, none⟩ (.int .i64 n2)) (w.heap.size + 1) 122 #[.int .i64 f2, .int .i64 n2] := (HKB5.out.set 0 _).set 1 _
  have HB6 := Lib.hid ((HB5.out.setCell (p := ⟨w.heap.size + 1, 0, none⟩) (by simp) (.int .i64 f2)).setCell (p := ⟨w.heap.size + 1, 1, none⟩) (by simp) (.int .i64 n2))
  generalize ((w5.setCell ⟨w.heap.size + 1, 0, none⟩ (.int .i64 f2)).setCell ⟨w.heap.size + 1, 1, none⟩ (.int .i64 n2)) = W6 at *
  have a0 : W6.cell? ⟨w.heap.size, 0, none⟩ = some (.int .i64 f1) := kA6.cell 0
  have a1 : W6.cell? ⟨w.heap.size, 1, none⟩ = some (.int .i64 n1) := kA6.cell 1
  have b0 : W6.cell? ⟨w.heap.size + 1, 0, none⟩ = some (.int .i64 f2) := kB6.cell 0
  have b1 : W6.cell? ⟨w.heap.size + 1, 1, none⟩ = some (.int .i64 n2) := kB6.cell 1
  have g0 := kA6.frozen 0
  have g1 := kA6.frozen 1
  have g2 := kB6.frozen 0
  have g3 := kB6.frozen 1
  have HKA6 := Lib.hid kA6
  have HKB6 := Lib.hid kB6
  clear HB5 HKA5 HKB5 fB0 fB1 cB0 cB1 kA6 kB6
  go_region
  try go_wp2
  try simp only [Exit.inBlock, Exit.then]
  refine bodyPost_ret (v := .tuple #[.agg #[.int .i64 f1, .int .i64 n1], .agg #[.int .i64 f2, .int .i64 n2], .bool false]) ?_ rfl ⟨⟨_, _, _, _, rfl⟩, ?_⟩
  · rw [results_cell2_tmp rfl]
    go_simp
  · repeat' (first | exact HB6.out | refine Below.setCell ?_ (by simp) _ | refine below_dN ?_ _ | refine Below.drew ?_)

set_option maxHeartbeats 4000000 in
set_option maxRecDepth 100000 in
theorem hunk_bad (x : ByteArray) (hH : ∀ W, Calls Tryz.prog 68 #[.string x] W fun e w' => (∃ a b c d, e = .returned (.tuple #[.agg #[.int .i64 a, .int .i64 b], .agg #[.int .i64 c, .int .i64 d], .bool false])) ∧ Below W.heap.size W w')
    (R B off n c : Nat) (v1 v2 v3 : Value) (w : World) (hn : 0 < n) (hR : Blk w R 93 #[.slice (some ⟨B, off, none⟩) n c, v1, v2, v3]) (hx : w.cell? ⟨B, off, none⟩ = some (.string x)) :
    Calls Tryz.prog 50 #[.pointer (some ⟨R, 0, none⟩)] w fun e w' => e = .returned (.tuple #[.agg #[.int .i64 0, .int .i64 0, .slice none 0 0], .bool false]) ∧ Below w.heap.size w w' := by
  have hR0 : w.cell? ⟨R, 0, none⟩ = some (.slice (some ⟨B, off, none⟩) n c) := hR.cell 0
  have hf0 := hR.frozen 0
  have hRlt := hR.lt
  have hBlt : B < w.heap.size := World.block_lt_of_cell? w _ hx
  have HR := Lib.hid hR
  have HH := Lib.hid hH
  have hn1 : (0 : Int) < n := by omega
  clear hR hH
  go_enter Tryz.func50, Tryz.ntmps50
  go_wp2_with fail
  refine (HH.out _).mono ?_
  rintro e w1 ⟨⟨a, b, c', d, rfl⟩, hb1⟩
  have kA : Blk w1 w.heap.size 66 #[.int .i64 0, .int .i64 0, .slice none 0 0] := Blk.below (Blk.new w _ _) hb1 (by simp)
  have hb1' : Below w.heap.size w w1 := ((Below.refl _ _).alloc (Nat.le_refl _) _).trans (hb1.mono (by simp))
  have HB1 := Lib.hid hb1'
  have HKA := Lib.hid kA
  have hsz : w.heap.size + 1 ≤ w1.heap.size := by have := hb1.size; simpa using this
  have HSZ := Lib.hid hsz
  have c0 := kA.cell 0
  have c1 := kA.cell 1
  have c2 := kA.cell 2
  have f0 := kA.frozen 0
  have f1 := kA.frozen 1
  have f2 := kA.frozen 2
  have n1 : ¬ w.heap.size = w1.heap.size := by omega
  have n2 : ¬ w.heap.size = w1.heap.size + 1 := by omega
  have hlt1 : w.heap.size < w1.heap.size := by omega
  clear hb1 kA hb1' hsz hR0 hf0
  go_wp2_with fail
  try simp only [Exit.inBlock, Exit.then]
  refine bodyPost_ret (v := .tuple #[.agg #[.int .i64 0, .int .i64 0, .slice none 0 0], .bool false]) ?_ rfl ⟨rfl, ?_⟩
  · rw [results_cell_tmp rfl]
    go_simp
  · have hs1 := HB1.out.size
    repeat' (first | exact HB1.out | refine Below.setCell ?_ (by first | omega | (simp <;> omega)) _ | refine Below.alloc ?_ (by first | omega | (simp <;> omega)) _)

/-- whether a text begins as a head does -/
def headB (s : ByteArray) : Bool := Lib.hasPrefix s.data.toList [64, 64, 32]

theorem headB_line (s : ByteArray) (h0 : 0 < s.size) (h : headB s = false) : ∃ x l, linesB s = x :: l ∧ headB x = false ∧ x.size ≤ s.size := by
  obtain ⟨e1, e2, e3⟩ := linesB_cut s h0
  refine ⟨_, _, e1, ?_, by rw [ByteArray.size_extract]; omega⟩
  cases q : headB (s.extract 0 (endL s.data.toList))
  · rfl
  · have h1 := List.isPrefixOf_iff_prefix.1 q
    have e : (s.extract 0 (endL s.data.toList)).data.toList = s.data.toList.take (endL s.data.toList) := by
      rw [ByteArray.data_extract, Array.toList_extract]; simp [List.extract]
    rw [e] at h1
    have h2 := List.isPrefixOf_iff_prefix.2 (h1.trans (List.take_prefix _ _))
    unfold headB at h
    rw [show Lib.hasPrefix s.data.toList [64, 64, 32] = true from h2] at h
    cases h

set_option maxHeartbeats 4000000 in
set_option maxRecDepth 100000 in
theorem readHunks_bad (hH : ∀ (x : ByteArray) W, x.size ≤ 8000000 → headB x = false → Calls Tryz.prog 68 #[.string x] W fun e w' => (∃ a b c d, e = .returned (.tuple #[.agg #[.int .i64 a, .int .i64 b], .agg #[.int .i64 c, .int .i64 d], .bool false])) ∧ Below W.heap.size W w')
    (s : ByteArray) (w : World) (h0 : 0 < s.size) (hb : headB s = false) (hs : s.size ≤ 8000000) :
    Calls Tryz.prog 27 #[.string s] w fun e w' => e = .returned (.tuple #[.slice none 0 0, .bool false]) ∧ Below w.heap.size w w' := by
  have hem : s.toList.isEmpty = false := by
    have hl : s.data.toList.length = s.size := by simp
    rw [ByteArray.toList_eq, List.isEmpty_eq_false_iff]
    intro e; rw [e] at hl; simp at hl; omega
  have hem2 : (!s.toList.isEmpty) = true := by rw [hem]; rfl
  have hE := fun W => hasEnd_any s W hs
  cases he : hasEndF s
  · simp only [he] at hE
    have HE := Lib.hid hE
    clear hE he hH
    go_enter Tryz.func27, Tryz.ntmps27
    go_wp2_with fail
    refine (HE.out _).mono ?_
    rintro e w1 ⟨rfl, rfl⟩
    go_wp2
    go_ret2
    exact ⟨rfl, Below.refl _ _⟩
  · simp only [he] at hE
    obtain ⟨x, l, hl, hx, hxs⟩ := headB_line s h0 hb
    have HX := Lib.hid (fun W => hH x W (by omega) hx)
    have HE := Lib.hid hE
    have HL := Lib.hid (fun W => lines_any s hs W)
    have HLL := Lib.hid hl
    clear hE he hH hl hx hb
    go_enter Tryz.func27, Tryz.ntmps27
    go_wp2_with fail
    refine (HE.out _).mono ?_
    rintro e w1 ⟨rfl, rfl⟩
    go_wp2_with fail
    refine (HL.out _).mono ?_
    rintro e w2 ⟨v2, rfl, hO2, hb2⟩
    have hO3 := hO2
    rw [HLL.out] at hO3
    obtain ⟨A2, c2, rfl, k1, k2, hR2⟩ := strs_of_own rfl hO3
    obtain ⟨B, off, rfl, hB, hcells⟩ := hR2 (by simp)
    have hc0 : w2.cell? ⟨B, off, none⟩ = some (.string x) := by have := hcells 0 (.string x) (by simp); simpa using this
    have hn : (x :: l).length = l.length + 1 := rfl
    rw [hn] at *
    have hnl : (0 : Int) < ((l.length + 1 : Nat) : Int) := by omega
    have HB2 := Lib.hid hb2
    have HC0 := Lib.hid hc0
    have HBL := Lib.hid hB
    clear hO2 hO3 hR2 hcells hc0 hb2 hB k1 k2 hn
    go_wp2_with fail
    have kR := Blk.new w2 93 #[.slice (some ⟨B, off, none⟩) ((l.length + 1 : Nat) : Int).toNat c2, .slice none 0 0, .bool false, .bool false]
    simp only [Int.toNat_natCast] at kR
    have hb3 : Below w1.heap.size w1 (w2.alloc (.cells #[.slice (some ⟨B, off, none⟩) (l.length + 1) c2, .slice none 0 0, .bool false, .bool false] 93)) := HB2.out.alloc HB2.out.size _
    have hx3 : (w2.alloc (.cells #[.slice (some ⟨B, off, none⟩) (l.length + 1) c2, .slice none 0 0, .bool false, .bool false] 93)).cell? ⟨B, off, none⟩ = some (.string x) := ((Below.refl _ w2).alloc (Nat.le_refl _) _).cell (p := ⟨B, off, none⟩) HBL.out |>.trans HC0.out
    generalize hW3 : (w2.alloc (.cells #[.slice (some ⟨B, off, none⟩) (l.length + 1) c2, .slice none 0 0, .bool false, .bool false] 93)) = W3 at *
    have HW3 := Lib.hid hW3
    have HK := Lib.hid kR
    have HB3 := Lib.hid hb3
    have HX3 := Lib.hid hx3
    clear hW3 kR hb3 hx3
    go_loopw [6] (fun v wr => v = .int .i64 0 ∧ wr = W3) (fun _ _ => 0)
    case atStart => exact ⟨rfl, rfl⟩
    case round =>
      obtain ⟨rfl, rfl⟩ := hrel
      have c0 : wr.cell? ⟨w2.heap.size, 0, none⟩ = some (.slice (some ⟨B, off, none⟩) (l.length + 1) c2) := HK.out.cell 0
      have hh := hunk_bad x HX.out w2.heap.size B off (l.length + 1) c2 _ _ _ wr (by omega) HK.out HX3.out
      have HH := Lib.hid hh
      clear hh
      go_wp2_with fail
      refine HH.out.mono ?_
      rintro e w4 ⟨rfl, hb4⟩
      have HB4 := Lib.hid (HB3.out.trans (hb4.mono HB3.out.size))
      clear hb4
      go_wp2
      go_ret2
      have hs4 := HB4.out.size
      refine ⟨rfl, ?_⟩
      repeat' (first | exact HB4.out | refine Below.setCell ?_ (by first | omega | (simp <;> omega)) _ | refine Below.alloc ?_ (by first | omega | (simp <;> omega)) _)

set_option maxHeartbeats 4000000 in
set_option maxRecDepth 100000 in
theorem patch_bad (hH : ∀ (x : ByteArray) W, x.size ≤ 8000000 → 0 < x.size → headB x = false → Calls Tryz.prog 27 #[.string x] W fun e w' => e = .returned (.tuple #[.slice none 0 0, .bool false]) ∧ Below W.heap.size W w')
    (s d : ByteArray) (w : World) (hs : s.size ≤ 3000) (hd : d.size ≤ 3000) (h0 : 0 < d.size) (hb : headB d = false) :
    Calls Tryz.prog 11 #[.string s, .string d] w fun e w' => e = .returned (.tuple #[.string ⟨#[]⟩, .int .i64 3]) ∧ Below w.heap.size w w' := by
  have H := Lib.hid (fun W => hH d W (by omega) h0 hb)
  clear hH hb
  go_enter Tryz.func11, Tryz.ntmps11
  go_wp2_with fail
  refine (H.out _).mono ?_
  rintro e w1 ⟨rfl, hb1⟩
  have HB1 := Lib.hid hb1
  clear hb1
  go_wp2
  go_ret2
  exact ⟨rfl, HB1.out⟩

set_option maxHeartbeats 4000000 in
set_option maxRecDepth 100000 in
theorem reverse_bad (hH : ∀ (x : ByteArray) W, x.size ≤ 8000000 → 0 < x.size → headB x = false → Calls Tryz.prog 27 #[.string x] W fun e w' => e = .returned (.tuple #[.slice none 0 0, .bool false]) ∧ Below W.heap.size W w')
    (d : ByteArray) (w : World) (hd : d.size ≤ 3000) (h0 : 0 < d.size) (hb : headB d = false) :
    Calls Tryz.prog 14 #[.string d] w fun e w' => e = .returned (.tuple #[.string ⟨#[]⟩, .int .i64 3]) ∧ Below w.heap.size w w' := by
  have H := Lib.hid (fun W => hH d W (by omega) h0 hb)
  clear hH hb
  go_enter Tryz.func14, Tryz.ntmps14
  go_wp2_with fail
  refine (H.out _).mono ?_
  rintro e w1 ⟨rfl, hb1⟩
  have HB1 := Lib.hid hb1
  clear hb1
  go_wp2
  go_ret2
  exact ⟨rfl, HB1.out⟩

end Go.Proofs.YtcbmkkndbeiknaaGreatDoor
