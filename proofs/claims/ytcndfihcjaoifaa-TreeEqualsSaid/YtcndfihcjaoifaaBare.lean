/- inside and Bare: a node without parentheses around it. -/
import Derived.Test.YtcndfihcjaoifaaHw
import Derived.Deep.LoopGhost
import Derived.Laws.ResultCell

namespace Go.Proofs.Ytcndfihcjaoifaa
open Go.RowKit

/-- a node without the parentheses around it -/
def Nd.bare : Nd → Nd
  | .mk op s n f t A c l => if h : op = 54 ∧ l.length = 1 then (l[0]'(by omega)).bare else .mk op s n f t A c l
termination_by x => SizeOf.sizeOf x
decreasing_by
  have := List.sizeOf_lt_of_mem (List.getElem_mem (l := l) (n := 0) (by omega))
  simp only [Nd.mk.sizeOf_spec]
  omega

theorem Nd.bare_step {op : Int} {s : ByteArray} {n f t : Int} {A : Option Addr} {c : Nat} {l : List Nd} (h1 : op = 54) (h : 0 < l.length) (h2 : l.length = 1) : (Nd.mk op s n f t A c l).bare = l[0].bare := by
  rw [Nd.bare, dif_pos ⟨h1, h2⟩]
theorem Nd.bare_end {op : Int} {s : ByteArray} {n f t : Int} {A : Option Addr} {c : Nat} {l : List Nd} (h : ¬ (op = 54 ∧ l.length = 1)) : (Nd.mk op s n f t A c l).bare = .mk op s n f t A c l := by
  rw [Nd.bare, dif_neg h]

theorem results_cell1 {fn : Func} {p : Tmp} {ty : TypeId} (h : fn.results = #[.cell p ty]) (tmps : Array Value) (P : Program) (w : World) :
    (results fn tmps).run P w = ((asAddr (tmps.getD p undef)).run P w).andThen fun a w₁ => (loadVar ty a).run P w₁ := by
  simp only [results, h]
  simp [Sem.run_bind, Result.andThen]
  try (congr 1)

def zeroNd : Nd := .mk 0 ⟨#[]⟩ 0 0 0 none 0 []

set_option maxHeartbeats 1000000 in
set_option maxRecDepth 100000 in
theorem inside_any (x : Nd) (w : World) (h : x.In w w.heap.size) :
    Calls Try.prog 47 #[x.val] w fun e w' => e = .returned x.bare.val ∧ Below w.heap.size w w' := by
  have HH := Lib.hid h
  clear h
  cases x with
  | mk op s n f t A c l =>
  rw [Nd.val_mk]
  obtain ⟨z, hz⟩ : ∃ z, z = (Nd.mk op s n f t A c l).bare := ⟨_, rfl⟩
  rw [← hz]
  have HZ := Lib.hid hz
  clear hz
  go_enter Try.func47, Try.ntmps47
  go_wp2_with fail
  go_loopg [] (SizeOf.sizeOf (Nd.mk op s n f t A c l)) (fun k wr => ∃ y : Nd, SizeOf.sizeOf y ≤ k ∧ NBlk wr w.heap.size y ∧ NBlk wr (w.heap.size + 1) zeroNd ∧ Hid (z = y.bare) ∧ Hid (y.In w w.heap.size) ∧ Below w.heap.size w wr)
  case atStart => exact ⟨_, Nat.le_refl _, (NBlk.new _ _ _ _ _ _ _ _ _).alloc _, by simpa [zeroNd] using NBlk.new (w.alloc _) 0 ⟨#[]⟩ 0 0 0 none 0 [], HZ, HH, ((Below.refl _ _).alloc (Nat.le_refl _) _).alloc (by simp) _⟩
  case round =>
    obtain ⟨y, hk, b0, b1, HY, HI, hb⟩ := hrel
    cases y with
    | mk op1 s1 n1 f1 t1 A1 l1c l1 =>
    obtain ⟨c0, c1, c2, c3, c4, c5⟩ := b0.cells
    obtain ⟨d0, d1, d2, d3, d4, d5⟩ := b1.cells
    obtain ⟨e0, e1, e2, e3, e4, e5⟩ := b0.free
    obtain ⟨r0, r1, r2, r3, r4, r5⟩ := b1.free
    have B0 := Lib.hid b0
    have B1 := Lib.hid b1
    have HB := Lib.hid hb
    have HK := Lib.hid hk
    clear b0 b1 hb hk
    by_cases h1 : op1 = 54
    · subst h1
      by_cases h2 : l1.length = 1
      · have h0 : 0 < l1.length := by omega
        have h0I : (0 : Int) < (l1.length : Int) := by omega
        have g2 : ((l1.length : Int) == 1) = true := by simp; omega
        obtain ⟨b, off, rfl, hB, p0, p1, p2, p3, p4, p5, hx⟩ := (HI.out.sl.below HB.out (Nat.le_refl _)).at_ 0 h0
        have hx2 := HI.out.sl.2.2.mem l1[0] (List.getElem_mem _)
        have hz2 := HY.out.trans (Nd.bare_step rfl h0 h2)
        have hsz : SizeOf.sizeOf l1[0] < SizeOf.sizeOf (Nd.mk 54 s1 n1 f1 t1 (some ⟨b, off, none⟩) l1c l1) := by
          have := List.sizeOf_lt_of_mem (List.getElem_mem (l := l1) (n := 0) h0)
          simp only [Nd.mk.sizeOf_spec]
          omega
        generalize l1[0] = x2 at *
        obtain ⟨op2, s2, n2, f2, t2, A2, l2c, l2⟩ := x2
        simp only [Nd.A, Nd.c, Nd.l, Nd.op, Nd.s, Nd.n, Nd.f, Nd.t] at *
        simp only [Nat.zero_mul, Nat.add_zero] at p0 p1 p2 p3 p4 p5
        have HX2 := Lib.hid hx2
        have HZ2 := Lib.hid hz2
        have HSZ := Lib.hid hsz
        have bw : ¬ b = w.heap.size := by omega
        have bw' : ¬ b = w.heap.size + 1 := by omega
        clear hz2 hsz hx hx2 HI HY h2
        go_wp2_with fail
        go_roundg (SizeOf.sizeOf (Nd.mk op2 s2 n2 f2 t2 A2 l2c l2))
        case measure => exact Nat.lt_of_lt_of_le HSZ.out HK.out
        case rel => exact ⟨_, Nat.le_refl _, NBlk.put B0.out rfl, NBlk.others B1.out (by omega) _ _ _ _ _ _, HZ2, HX2, below_six HB.out (Nat.le_refl _) _ _ _ _ _ _⟩
      · have g2 : ((l1.length : Int) == 1) = false := by simp; omega
        have HZ2 : Hid (z = .mk 54 s1 n1 f1 t1 A1 l1c l1) := by unfold Hid; rw [HY.out, Nd.bare_end (fun h => h2 h.2)]
        clear h2 HY
        go_wp2_with fail
        refine bodyPost_ret (v := .agg #[.int .i64 54, .string s1, .int .i64 n1, .int .i64 f1, .int .i64 t1, .slice A1 l1.length l1c]) ?_ rfl ?_
        · rw [results_cell1 rfl]
          go_simp
        · exact ⟨by rw [HZ2.out, Nd.val_mk], below_six HB.out (by omega) _ _ _ _ _ _⟩
    · have g1 : (op1 == 54) = false := by simpa using h1
      have HZ2 : Hid (z = .mk op1 s1 n1 f1 t1 A1 l1c l1) := by unfold Hid; rw [HY.out, Nd.bare_end (fun h => h1 h.1)]
      clear h1 HY
      go_wp2_with fail
      refine bodyPost_ret (v := .agg #[.int .i64 op1, .string s1, .int .i64 n1, .int .i64 f1, .int .i64 t1, .slice A1 l1.length l1c]) ?_ rfl ?_
      · rw [results_cell1 rfl]
        go_simp
      · exact ⟨by rw [HZ2.out, Nd.val_mk], below_six HB.out (by omega) _ _ _ _ _ _⟩

set_option maxHeartbeats 1000000 in
set_option maxRecDepth 100000 in
theorem bareR_any (x : Nd) (w : World) (h : x.In w w.heap.size) :
    Calls Try.prog 50 #[x.val] w fun e w' => e = .returned x.bare.val ∧ Below w.heap.size w w' := by
  have HH := Lib.hid h
  clear h
  cases x with
  | mk op s n f t A c l =>
  rw [Nd.val_mk]
  obtain ⟨z, hz⟩ : ∃ z, z = (Nd.mk op s n f t A c l).bare := ⟨_, rfl⟩
  rw [← hz]
  have HZ := Lib.hid hz
  clear hz
  go_enter Try.func50, Try.ntmps50
  go_wp2_with fail
  go_loopg [] (SizeOf.sizeOf (Nd.mk op s n f t A c l)) (fun k wr => ∃ y : Nd, SizeOf.sizeOf y ≤ k ∧ NBlk wr w.heap.size y ∧ NBlk wr (w.heap.size + 1) zeroNd ∧ Hid (z = y.bare) ∧ Hid (y.In w w.heap.size) ∧ Below w.heap.size w wr)
  case atStart => exact ⟨_, Nat.le_refl _, (NBlk.new _ _ _ _ _ _ _ _ _).alloc _, by simpa [zeroNd] using NBlk.new (w.alloc _) 0 ⟨#[]⟩ 0 0 0 none 0 [], HZ, HH, ((Below.refl _ _).alloc (Nat.le_refl _) _).alloc (by simp) _⟩
  case round =>
    obtain ⟨y, hk, b0, b1, HY, HI, hb⟩ := hrel
    cases y with
    | mk op1 s1 n1 f1 t1 A1 l1c l1 =>
    obtain ⟨c0, c1, c2, c3, c4, c5⟩ := b0.cells
    obtain ⟨d0, d1, d2, d3, d4, d5⟩ := b1.cells
    obtain ⟨e0, e1, e2, e3, e4, e5⟩ := b0.free
    obtain ⟨r0, r1, r2, r3, r4, r5⟩ := b1.free
    have B0 := Lib.hid b0
    have B1 := Lib.hid b1
    have HB := Lib.hid hb
    have HK := Lib.hid hk
    clear b0 b1 hb hk
    by_cases h1 : op1 = 54
    · subst h1
      by_cases h2 : l1.length = 1
      · have h0 : 0 < l1.length := by omega
        have h0I : (0 : Int) < (l1.length : Int) := by omega
        have g2 : ((l1.length : Int) == 1) = true := by simp; omega
        obtain ⟨b, off, rfl, hB, p0, p1, p2, p3, p4, p5, hx⟩ := (HI.out.sl.below HB.out (Nat.le_refl _)).at_ 0 h0
        have hx2 := HI.out.sl.2.2.mem l1[0] (List.getElem_mem _)
        have hz2 := HY.out.trans (Nd.bare_step rfl h0 h2)
        have hsz : SizeOf.sizeOf l1[0] < SizeOf.sizeOf (Nd.mk 54 s1 n1 f1 t1 (some ⟨b, off, none⟩) l1c l1) := by
          have := List.sizeOf_lt_of_mem (List.getElem_mem (l := l1) (n := 0) h0)
          simp only [Nd.mk.sizeOf_spec]
          omega
        generalize l1[0] = x2 at *
        obtain ⟨op2, s2, n2, f2, t2, A2, l2c, l2⟩ := x2
        simp only [Nd.A, Nd.c, Nd.l, Nd.op, Nd.s, Nd.n, Nd.f, Nd.t] at *
        simp only [Nat.zero_mul, Nat.add_zero] at p0 p1 p2 p3 p4 p5
        have HX2 := Lib.hid hx2
        have HZ2 := Lib.hid hz2
        have HSZ := Lib.hid hsz
        have bw : ¬ b = w.heap.size := by omega
        have bw' : ¬ b = w.heap.size + 1 := by omega
        clear hz2 hsz hx hx2 HI HY h2
        go_wp2_with fail
        go_roundg (SizeOf.sizeOf (Nd.mk op2 s2 n2 f2 t2 A2 l2c l2))
        case measure => exact Nat.lt_of_lt_of_le HSZ.out HK.out
        case rel => exact ⟨_, Nat.le_refl _, NBlk.put B0.out rfl, NBlk.others B1.out (by omega) _ _ _ _ _ _, HZ2, HX2, below_six HB.out (Nat.le_refl _) _ _ _ _ _ _⟩
      · have g2 : ((l1.length : Int) == 1) = false := by simp; omega
        have HZ2 : Hid (z = .mk 54 s1 n1 f1 t1 A1 l1c l1) := by unfold Hid; rw [HY.out, Nd.bare_end (fun h => h2 h.2)]
        clear h2 HY
        go_wp2_with fail
        refine bodyPost_ret (v := .agg #[.int .i64 54, .string s1, .int .i64 n1, .int .i64 f1, .int .i64 t1, .slice A1 l1.length l1c]) ?_ rfl ?_
        · rw [results_cell1 rfl]
          go_simp
        · exact ⟨by rw [HZ2.out, Nd.val_mk], below_six HB.out (by omega) _ _ _ _ _ _⟩
    · have g1 : (op1 == 54) = false := by simpa using h1
      have HZ2 : Hid (z = .mk op1 s1 n1 f1 t1 A1 l1c l1) := by unfold Hid; rw [HY.out, Nd.bare_end (fun h => h1 h.1)]
      clear h1 HY
      go_wp2_with fail
      refine bodyPost_ret (v := .agg #[.int .i64 op1, .string s1, .int .i64 n1, .int .i64 f1, .int .i64 t1, .slice A1 l1.length l1c]) ?_ rfl ?_
      · rw [results_cell1 rfl]
        go_simp
      · exact ⟨by rw [HZ2.out, Nd.val_mk], below_six HB.out (by omega) _ _ _ _ _ _⟩

theorem Nd.bare_in {w : World} {B : Nat} (x : Nd) (h : x.In w B) : x.bare.In w B := by
  match x, h with
  | .mk op s n f t A c l, h =>
    rw [Nd.bare]
    split
    · next hh =>
      have := List.sizeOf_lt_of_mem (List.getElem_mem (l := l) (n := 0) (by omega))
      exact Nd.bare_in _ (h.sl.2.2.mem _ (List.getElem_mem _))
    · exact h
termination_by SizeOf.sizeOf x
decreasing_by
  simp only [Nd.mk.sizeOf_spec]
  omega

theorem deepB_less : ∀ {k : Nat} {l : List Nd}, deepB k l = false → deepB (k + 1) l = false
  | 0, l, h => by rw [deepB_nil h]; rfl
  | k + 1, l, h => by
    rw [deepB, List.any_eq_false]
    intro x hx
    simp [deepB_less (deepB_part h x hx)]

theorem Nd.bare_deep {k : Nat} (x : Nd) (h : deepB k x.l = false) : deepB k x.bare.l = false := by
  match x, h with
  | .mk op s n f t A c l, h =>
    rw [Nd.bare]
    split
    · next hh =>
      have := List.sizeOf_lt_of_mem (List.getElem_mem (l := l) (n := 0) (by omega))
      refine Nd.bare_deep _ ?_
      cases k with
      | zero => have := deepB_nil h; simp only [Nd.l] at this; rw [this] at hh; simp at hh
      | succ k => exact deepB_less (deepB_part h _ (List.getElem_mem _))
    · exact h
termination_by SizeOf.sizeOf x
decreasing_by
  simp only [Nd.mk.sizeOf_spec]
  omega

end Go.Proofs.Ytcndfihcjaoifaa
