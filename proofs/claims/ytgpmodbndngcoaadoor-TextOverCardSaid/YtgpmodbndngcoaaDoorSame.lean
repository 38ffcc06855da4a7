/- samePoint: how many edits that have no bytes stand at one place. -/
import Derived.Test.YtgpmodbndngcoaaDoorPlain
import Derived.RegionTactic
import Derived.Deep.QuietTactic
import Derived.BigQuiet
namespace Go.Proofs.YtgpmodbndngcoaaDoor
open Go.RowKit Go.Maps

/-- two edits that have no bytes and stand at one place -/
def sameP (x y : Ed) : Bool := decide (x.f = x.t) && (decide (y.f = x.f) && decide (y.t = x.t))

theorem sameP_iff {x y : Ed} : sameP x y = true ↔ x.f = x.t ∧ y.f = x.f ∧ y.t = x.t := by simp [sameP]

theorem below_drawn {B : Nat} {a w : World} (h : Below B a w) (n : Nat) : Below B a (w.drewN n) := ⟨h.os, h.tape, h.output, h.size, h.block⟩

theorem takeWhile_len (p : Ed → Bool) : ∀ (l : List Ed) (k : Nat), k ≤ l.length → (∀ (j : Nat) (h : j < l.length), j < k → p l[j] = true) → (∀ h : k < l.length, p l[k] = false) → (l.takeWhile p).length = k
  | [], k, h, _, _ => by simp at h; subst h; rfl
  | x :: l, 0, _, _, h => by
    have := h (by simp)
    simp only [List.getElem_cons_zero] at this
    rw [List.takeWhile_cons, if_neg (by rw [this]; simp)]; rfl
  | x :: l, k + 1, h1, h2, h3 => by
    have h0 := h2 0 (by simp) (by omega)
    simp only [List.getElem_cons_zero] at h0
    rw [List.takeWhile_cons, if_pos h0, List.length_cons, takeWhile_len p l k (by simpa using h1) (fun j hj hk => by
      have := h2 (j + 1) (by simpa using hj) (by omega)
      simpa using this) (fun h => by have := h3 (by simpa using h); simpa using this)]

theorem ESl.take {w : World} {B : Nat} {A : Option Addr} {l : List Ed} (h : ESl w B A l) (n : Nat) : ESl w B A (l.take n) := fun hl => by
  obtain ⟨b, off, e, hB, hc⟩ := h (by rw [cellsE_length] at *; rw [List.length_take] at hl; omega)
  refine ⟨b, off, e, hB, fun j u hu => hc j u ?_⟩
  have e2 : cellsE l = cellsE (l.take n) ++ cellsE (l.drop n) := by rw [← cellsE_append, List.take_append_drop]
  rw [e2, List.getElem?_append_left (List.getElem?_eq_some_iff.1 hu).1]
  exact hu

theorem ESl.drop {w : World} {B b off : Nat} {l : List Ed} (h : ESl w B (some ⟨b, off, none⟩) l) (n : Nat) : ESl w B (some ⟨b, off + n * 3, none⟩) (l.drop n) := fun hl => by
  have hn : n < l.length := by rw [cellsE_length, List.length_drop] at hl; omega
  obtain ⟨b', off', e, hB, hc⟩ := h (by rw [cellsE_length]; omega)
  injection e with e
  injection e with e1 e2
  subst e1 e2
  refine ⟨b, off + n * 3, rfl, hB, fun j u hu => ?_⟩
  have := hc (n * 3 + j) u (by
    have e2 : cellsE l = cellsE (l.take n) ++ cellsE (l.drop n) := by rw [← cellsE_append, List.take_append_drop]
    have e3 : (cellsE (l.take n)).length = n * 3 := by rw [cellsE_length, List.length_take]; omega
    rw [e2, List.getElem?_append_right (by omega), e3, Nat.add_sub_cancel_left]
    exact hu)
  rwa [← Nat.add_assoc] at this

theorem ESl.any {w : World} {B : Nat} {A : Option Addr} {l : List Ed} (h : l ≠ [] → ESl w B A l) : ESl w B A l := by
  by_cases e : l = []
  · subst e; intro hl; simp [cellsE] at hl
  · exact h e

set_option maxHeartbeats 1000000 in
set_option maxRecDepth 100000 in
theorem samePoint_any (b off c : Nat) (x : Ed) (l : List Ed) (w : World) (hl : l.length ≤ 1000000) (h : ESl w w.heap.size (some ⟨b, off, none⟩) (x :: l)) :
    Calls Tryd.prog 93 #[.slice (some ⟨b, off, none⟩) (l.length + 1) c] w fun e w' => e = .returned (.int .i64 (1 + (l.takeWhile (sameP x)).length : Nat)) ∧ Below w.heap.size w w' := by
  obtain ⟨b', off', e0, hB0, x0, x1, x2⟩ := h.at_ 0 (by simp)
  injection e0 with e0
  injection e0 with e1 e2
  subst e1 e2
  simp only [Nat.zero_mul, Nat.add_zero, List.getElem_cons_zero] at x0 x1 x2
  have hx := heap_alloc_new w (Obj.cells #[Value.int IntKind.i64 x.f, Value.int IntKind.i64 x.t, Value.string x.s] 46)
  have hc := fun (W : World) (hb : Below (w.heap.size + 1) (w.alloc (Obj.cells #[Value.int IntKind.i64 x.f, Value.int IntKind.i64 x.t, Value.string x.s] 46)) W) =>
    (⟨(hb.cell (p := ⟨w.heap.size, 0, none⟩) (by simp)).trans (cell_of_row _ _ 0 _ _ (0, 0) hx), (hb.cell (p := ⟨w.heap.size, 1, none⟩) (by simp)).trans (cell_of_row _ _ 1 _ _ (0, 0) hx)⟩ : W.cell? ⟨w.heap.size, 0, none⟩ = some (.int .i64 x.f) ∧ W.cell? ⟨w.heap.size, 1, none⟩ = some (.int .i64 x.t))
  have HC := Lib.hid hc
  have HH := Lib.hid h
  have htl := takeWhile_len (sameP x) l
  have HTL := Lib.hid htl
  have hsp := fun y => @sameP_iff x y
  have HSP := Lib.hid hsp
  have hB1 := (Below.refl w.heap.size w).alloc (Nat.le_refl _) (Obj.cells #[Value.int IntKind.i64 x.f, Value.int IntKind.i64 x.t, Value.string x.s] 46)
  have HB1 := Lib.hid hB1
  clear hc hx h htl hsp hB1
  obtain ⟨f, t, s⟩ := x
  simp only at *
  have hlI : (0 : Int) < (l.length : Int) + 1 := by omega
  go_enter Tryd.func93, Tryd.ntmps93
  go_wp2
  go_loopw [4] (fun vn wr => ∃ k : Nat, k ≤ l.length ∧ vn = .int .i64 ((k + 1 : Nat) : Int) ∧ Hid (∀ (j : Nat) (h : j < l.length), j < k → sameP ⟨f, t, s⟩ l[j] = true) ∧ Below (w.heap.size + 1) (w.alloc (Obj.cells #[Value.int IntKind.i64 f, Value.int IntKind.i64 t, Value.string s] 46)) wr) (fun vn _ => l.length + 1 - (intOf vn).toNat)
  case atStart => exact ⟨0, Nat.zero_le _, rfl, (fun j _ h => by omega), Below.refl _ _⟩
  case round =>
    obtain ⟨k, hk, rfl, hP, hb⟩ := hrel
    obtain ⟨d0, d1⟩ := HC.out wr hb
    have hbw : Below w.heap.size w wr := HB1.out.trans (hb.mono (by omega))
    by_cases hlt : k < l.length
    · obtain ⟨b', off', e0, hB', c0, c1, c2⟩ := (HH.out.below hbw).at_ (k + 1) (by simpa using hlt)
      injection e0 with e0
      injection e0 with e1 e2
      subst e1 e2
      simp only [List.getElem_cons_succ] at c0 c1 c2
      have hsp := HSP.out l[k]
      have hend : sameP ⟨f, t, s⟩ l[k] = false → (l.takeWhile (sameP ⟨f, t, s⟩)).length = k := fun h => HTL.out k hk (fun j hj hjk => hP.out j hj hjk) (fun _ => h)
      have hstep : sameP ⟨f, t, s⟩ l[k] = true → ∀ (j : Nat) (h : j < l.length), j < k + 1 → sameP ⟨f, t, s⟩ l[j] = true := fun h j hj hjk => by
        by_cases e : j = k
        · subst e; exact h
        · exact hP.out j hj (by omega)
      have HEND := Lib.hid hend
      have HSTEP := Lib.hid hstep
      generalize l[k].f = g at *
      generalize l[k].t = u at *
      have HS2 := Lib.hid hsp
      have HBW := Lib.hid hbw
      clear hsp hend hstep hP HTL HH HC HSP hbw c2
      have g0 : (decide (((k + 1 : Nat) : Int) < (l.length : Int) + 1)) = true := by simp; omega
      have g1 : (0 : Int) ≤ ((k + 1 : Nat) : Int) := by omega
      have g2 : ((k + 1 : Nat) : Int) < (l.length : Int) + 1 := by omega
      by_cases q : sameP ⟨f, t, s⟩ l[k] = true
      · have q' := HS2.out.1 q
        obtain ⟨q1, q2, q3⟩ := q'
        have r1 : (f == t) = true := by simp [q1]
        have r2 : (g == f) = true := by simp [q2]
        have r3 : (u == t) = true := by simp [q3]
        have HQ := Lib.hid (HSTEP.out q)
        clear q q1 q2 q3 HS2 HEND HSTEP
        go_wp2
        go_quiet (fail)
        go_wp2
        go_roundw
        case rel => exact ⟨k + 1, by omega, by go_num, HQ.out, below_drawn hb _⟩
        case measure => simp [intOf]; omega
      · have q' : ¬ (f = t ∧ g = f ∧ u = t) := fun h => q (HS2.out.2 h)
        have HQ := Lib.hid (HEND.out (by simpa using q))
        clear q HS2 HEND HSTEP
        by_cases q1 : f = t
        · have r1 : (f == t) = true := by simp [q1]
          by_cases q2 : g = f
          · have r2 : (g == f) = true := by simp [q2]
            have r3 : (u == t) = false := by simp; omega
            clear q1 q2 q'
            go_wp2
            go_quiet (fail)
            go_wp2
            go_ret
            exact ⟨ret_int (by rw [HQ.out]; omega), below_drawn HBW.out _⟩
          · have r2 : (g == f) = false := by simp; omega
            clear q1 q2 q'
            go_wp2
            go_quiet (fail)
            go_wp2
            go_ret
            exact ⟨ret_int (by rw [HQ.out]; omega), below_drawn HBW.out _⟩
        · have r1 : (f == t) = false := by simp; omega
          clear q1 q'
          go_wp2
          go_quiet (fail)
          go_wp2
          go_ret
          exact ⟨ret_int (by rw [HQ.out]; omega), below_drawn HBW.out _⟩
    · have g0 : (decide (((k + 1 : Nat) : Int) < (l.length : Int) + 1)) = false := by simp; omega
      have HQ := Lib.hid (HTL.out k hk (fun j hj hjk => hP.out j hj hjk) (fun h => absurd h hlt))
      have HBW := Lib.hid hbw
      clear hP HTL HH HC HSP hbw
      go_wp2
      go_quiet (fail)
      go_wp2
      go_ret
      exact ⟨ret_int (by rw [HQ.out]; omega), below_drawn HBW.out _⟩

end Go.Proofs.YtgpmodbndngcoaaDoor
