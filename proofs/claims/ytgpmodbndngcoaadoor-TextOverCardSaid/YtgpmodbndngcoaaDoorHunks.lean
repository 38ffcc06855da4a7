import Derived.Test.YtgpmodbndngcoaaDoorNext
import Derived.Deep.RegionHeld3
namespace Go.Proofs.YtgpmodbndngcoaaDoor
open Go.RowKit Go.Shelf

/-- the cells of a new block -/
theorem news_new (w : World) (t : TypeId) (cs : Array Value) : ∀ (j : Nat) (u : Value), cs.toList[j]? = some u → (w.alloc (.cells cs t)).cell? ((⟨w.heap.size, 0, none⟩ : Addr).add j) = some u := fun j u hu => by
  rw [Addr.add_lit, Nat.zero_add, cell_of_row _ _ _ _ _ (0, 0) (heap_alloc_new w (Obj.cells cs t))]
  simpa using hu

/-- a hunk: how many lines stand before it in a and in b, and its steps -/
structure Hk where
  a : Nat
  b : Nat
  st : List St

def headF (h : Hk) : List UInt8 := [64, 64, 32] ++ spanF h.a (sideA h.st) ++ [32] ++ spanF h.b (sideB h.st) ++ [32, 64, 64, 10]
def noEndF : List UInt8 := [10, 92, 32, 110, 111, 32, 101, 110, 100, 10]
def stepF (t : St) : List UInt8 := t.m :: t.x.data.toList ++ (if hasEndF t.x = true then [] else noEndF)
def stepsF (l : List St) : List UInt8 := l.flatMap stepF
def hunkF (h : Hk) : List UInt8 := headF h ++ stepsF h.st
def hunksF (l : List Hk) : List UInt8 := l.flatMap hunkF

/-- the slice with address A reads as the hunks hs -/
def HSl (w : World) (B : Nat) (A : Option Addr) (hs : List Hk) : Prop :=
  ∀ (i : Nat) (hi : i < hs.length), ∃ b off Ai ci, A = some ⟨b, off, none⟩ ∧ b < B ∧ w.cell? ⟨b, off + i * 3, none⟩ = some (.int .i64 hs[i].a) ∧ w.cell? ⟨b, off + i * 3 + 1, none⟩ = some (.int .i64 hs[i].b) ∧
    w.cell? ⟨b, off + i * 3 + 2, none⟩ = some (.slice Ai hs[i].st.length ci) ∧ SSl w B Ai hs[i].st

theorem HSl.below {w w' : World} {B : Nat} {A : Option Addr} {l : List Hk} (h : HSl w B A l) (hb : Below B w w') : HSl w' B A l := fun i hi => by
  obtain ⟨b, off, Ai, ci, e, hB, h0, h1, h2, hs⟩ := h i hi
  refine ⟨b, off, Ai, ci, e, hB, ?_, ?_, ?_, hs.below hb⟩
  · rw [hb.cell (p := ⟨b, off + i * 3, none⟩) hB]; exact h0
  · rw [hb.cell (p := ⟨b, off + i * 3 + 1, none⟩) hB]; exact h1
  · rw [hb.cell (p := ⟨b, off + i * 3 + 2, none⟩) hB]; exact h2

theorem HSl.more {w : World} {B B' : Nat} {A : Option Addr} {l : List Hk} (h : HSl w B A l) (hB : B ≤ B') : HSl w B' A l := fun i hi => by
  obtain ⟨b, off, Ai, ci, e, hb, h0, h1, h2, hs⟩ := h i hi
  exact ⟨b, off, Ai, ci, e, by omega, h0, h1, h2, hs.more hB⟩

/-- hunks that are not too large -/
def SmallH (l : List Hk) : Prop := ∀ h ∈ l, h.a ≤ 100000 ∧ h.b ≤ 100000 ∧ h.st.length ≤ 100000 ∧ ∀ t ∈ h.st, t.x.size ≤ 8000000

theorem span_len (b n : Nat) (hb : b ≤ 1000000) (hn : n ≤ 1000000) : (ofL (spanF b n)).size ≤ 15 := by
  have h2 := itoa_len n (by omega) (by omega)
  unfold spanF ofL ByteArray.size at *
  simp only [List.size_toArray, List.length_append, List.length_cons] at *
  by_cases hn0 : 0 < n
  · have h1 := itoa_len (b + 1) (by omega) (by omega)
    unfold ofL ByteArray.size at h1
    simp only [List.size_toArray] at h1
    rw [if_pos hn0, Int.natCast_add, Int.natCast_one]
    omega
  · have h1 := itoa_len b (by omega) (by omega)
    unfold ofL ByteArray.size at h1
    simp only [List.size_toArray] at h1
    rw [if_neg hn0]
    omega

theorem run_cat (x y : ByteArray) (W : World) (hx : x.size ≤ 1000000) (hy : y.size ≤ 1000000) : (Op.stringOp .add x y).run Tryd.prog W = .ok (.string (x ++ y)) W :=
  run_string_add_sum W x y (by omega)

/-- while a head is written: the table stands, the builder holds acc, and all that lay in w0 lies as it lay -/
def HGood (w0 : World) (B : Nat) (acc : List UInt8) (w : World) : Prop := Tab w ∧ Bld w B B acc ∧ Below w0.heap.size w0 w

theorem HGood.drew {w0 w : World} {B : Nat} {acc : List UInt8} (h : HGood w0 B acc w) : HGood w0 B acc w.drew := ⟨h.1.below (Below.refl _ _).drew, h.2.1.drew, h.2.2.drew⟩

theorem span_at {w0 W : World} {B X : Nat} {acc : List UInt8} {u v : Value} (b n : Nat) (hb : b ≤ 1000000) (hn : n ≤ 1000000) (hX : X < w0.heap.size) (c0 : W.cell? ⟨X, 0, none⟩ = some u) (c1 : W.cell? ⟨X, 1, none⟩ = some v) (hg : HGood w0 B acc W) :
    Calls Tryd.prog 105 #[.int .i64 b, .int .i64 n] W fun e w' => e = .returned (.string (ofL (spanF b n))) ∧ w'.cell? ⟨X, 0, none⟩ = some u ∧ w'.cell? ⟨X, 1, none⟩ = some v ∧ HGood w0 B acc w' :=
  (writeSpan_any b n W hb hn hg.1).mono fun _ _ ⟨he, k, os, hw⟩ => by
    subst hw
    have hbl := below_grow W k os
    have hlt : X < W.heap.size := Nat.lt_of_lt_of_le hX hg.2.2.size
    exact ⟨he, (hbl.cell (p := ⟨X, 0, none⟩) hlt).trans c0, (hbl.cell (p := ⟨X, 1, none⟩) hlt).trans c1, hg.1.below hbl, hg.2.1.below hbl, hg.2.2.trans (hbl.mono hg.2.2.size)⟩

theorem ws_at {w0 W : World} {B X : Nat} {acc : List UInt8} {u v z : Value} (s : ByteArray) (hlen : acc.length + s.size ≤ 140737488355328) (hB : B < w0.heap.size) (hX : X < w0.heap.size) (hXB : X ≠ B) (hx : w0.heap[X]? = some (.cells #[u, v, z] 120 (0, 0))) (hg : HGood w0 B acc W) :
    Calls Tryd.prog 56 #[.pointer (some ⟨B, 0, none⟩), .string s] W fun e w' => e = .returned (.tuple #[.int .i64 s.size, .nilIface]) ∧ w'.cell? ⟨X, 0, none⟩ = some u ∧ w'.cell? ⟨X, 1, none⟩ = some v ∧ w'.heap[X]? = some (.cells #[u, v, z] 120 (0, 0)) ∧ Bld w' B B (acc ++ s.data.toList) ∧ Below B w0 w' ∧ w0.heap.size ≤ w'.heap.size :=
  (writeString_any B B acc s W hg.2.1 hlen (by have := hg.2.2.size; omega)).mono fun _ w' ⟨he, h1, h2⟩ => by
    have h3 := (hg.2.2.block X hX).trans hx
    have h4 := h2.block h3 hXB (by decide)
    exact ⟨he, cell_of_row w' _ _ _ _ (0, 0) h4, cell_of_row w' _ _ _ _ (0, 0) h4, h4, h1, (hg.2.2.mono (by omega)).trans h2.1, Nat.le_trans hg.2.2.size h2.1.size⟩

set_option maxHeartbeats 1000000 in
set_option maxRecDepth 100000 in
theorem writeHunks_any (A : Option Addr) (c : Nat) (l : List Hk) (w : World) (hl : l.length ≤ 1000000) (hS : SmallH l) (hb : (hunksF l).length ≤ 100000000) (h : HSl w w.heap.size A l) (ht : Tab w) :
    Calls Tryd.prog 71 #[.slice A l.length c] w fun e w' => e = .returned (.string (ofL (hunksF l))) ∧ Below w.heap.size w w' := by
  have HT := Lib.hid ht
  have HH := Lib.hid h
  have HS := Lib.hid hS
  have HBD := Lib.hid hb
  clear ht h hS hb
  go_enter Tryd.func71, Tryd.ntmps71
  go_wp2
  have hB0 := Bld.new w
  go_loopw [12] (fun i wr => ∃ (k : Nat) (acc : List UInt8), k ≤ l.length ∧ i = .int .i64 k ∧ Hid (acc ++ hunksF (l.drop k) = hunksF l) ∧ Bld wr w.heap.size w.heap.size acc ∧ Below w.heap.size w wr) (fun i _ => l.length - (intOf i).toNat)
  case atStart => exact ⟨0, [], Nat.zero_le _, rfl, rfl, hB0, (Below.refl _ _).alloc (Nat.le_refl _) _⟩
  case round =>
    clear hB0
    obtain ⟨k, acc, hk, rfl, hm, hbl, hb⟩ := hrel
    have hL := hbl.lt
    by_cases hlt : k < l.length
    · obtain ⟨b, off, Ai, ci, rfl, hB, c0, c1, c2, hSS⟩ := HH.out.below hb k hlt
      have hsm := HS.out _ (List.getElem_mem hlt)
      have hm1 := hm.out
      rw [List.drop_eq_getElem_cons hlt] at hm1
      generalize l[k] = hk1 at *
      obtain ⟨s1, s2, s3, s4⟩ := hsm
      have S4 := Lib.hid s4
      have HM := Lib.hid hm1
      have hsid := sideA_le hk1.st
      have hsid2 := sideB_le hk1.st
      clear hm hm1 s4
      go_wp2_with fail
      refine (sides_any Ai ci hk1.st _ (by omega) (Rd.more (hSS.below (hb.trans (Below.refl _ _) |> fun _ => (Below.refl w.heap.size wr).alloc (by omega) _)) (by simp; omega))).mono ?_
      rintro e w2 ⟨rfl, hb2⟩
      have hx := (hb2.block wr.heap.size (by simp)).trans (heap_alloc_new wr (Obj.cells #[Value.int IntKind.i64 ↑hk1.a, Value.int IntKind.i64 ↑hk1.b, Value.slice Ai hk1.st.length ci] 120))
      have hXlt : wr.heap.size < w2.heap.size := by have := hb2.size; simp at this; omega
      have d0 : w2.drew.cell? ⟨wr.heap.size, 0, none⟩ = some (.int .i64 hk1.a) := cell_of_row w2 _ _ _ _ (0, 0) hx
      have d1 : w2.drew.cell? ⟨wr.heap.size, 1, none⟩ = some (.int .i64 hk1.b) := cell_of_row w2 _ _ _ _ (0, 0) hx
      have hbl2 : Bld w2 w.heap.size w.heap.size acc := (hbl.alloc _).below hb2
      have hBel : Below w.heap.size w w2 := (hb.alloc (by omega) _).trans (hb2.mono (by simp; omega))
      have hgood : HGood w2 w.heap.size acc w2.drew := HGood.drew ⟨HT.out.below hBel, hbl2, Below.refl _ _⟩
      have l1 := span_len hk1.a (sideA hk1.st) (by omega) (by omega)
      have l2 := span_len hk1.b (sideB hk1.st) (by omega) (by omega)
      have K1 := fun (W : World) (b n : Nat) hb hn c0 c1 hg => span_at (w0 := w2) (W := W) (B := w.heap.size) (X := wr.heap.size) (acc := acc) (u := .int .i64 hk1.a) (v := .int .i64 hk1.b) b n hb hn hXlt c0 c1 hg
      have z1 : (⟨#[64, 64, 32]⟩ : ByteArray).size = 3 := rfl
      have z2 : (⟨#[32]⟩ : ByteArray).size = 1 := rfl
      have z3 : (⟨#[32, 64, 64, 10]⟩ : ByteArray).size = 4 := rfl
      have q1 := fun W => run_cat ⟨#[64, 64, 32]⟩ (ofL (spanF hk1.a (sideA hk1.st))) W (by omega) (by omega)
      have q2 := fun W => run_cat (⟨#[64, 64, 32]⟩ ++ (ofL (spanF hk1.a (sideA hk1.st)))) ⟨#[32]⟩ W (by rw [ByteArray.size_append]; omega) (by omega)
      have q3 := fun W => run_cat (⟨#[64, 64, 32]⟩ ++ (ofL (spanF hk1.a (sideA hk1.st))) ++ ⟨#[32]⟩) (ofL (spanF hk1.b (sideB hk1.st))) W (by rw [ByteArray.size_append, ByteArray.size_append]; omega) (by omega)
      have q4 := fun W => run_cat (⟨#[64, 64, 32]⟩ ++ (ofL (spanF hk1.a (sideA hk1.st))) ++ ⟨#[32]⟩ ++ (ofL (spanF hk1.b (sideB hk1.st)))) ⟨#[32, 64, 64, 10]⟩ W (by rw [ByteArray.size_append, ByteArray.size_append, ByteArray.size_append]; omega) (by omega)
      have q5 : (⟨#[64, 64, 32]⟩ ++ (ofL (spanF hk1.a (sideA hk1.st))) ++ ⟨#[32]⟩ ++ (ofL (spanF hk1.b (sideB hk1.st))) ++ ⟨#[32, 64, 64, 10]⟩ : ByteArray).size ≤ 1000000 := by rw [ByteArray.size_append, ByteArray.size_append, ByteArray.size_append, ByteArray.size_append]; omega
      have hacc : acc.length ≤ 100000000 := by
        have e := congrArg List.length HM.out; rw [List.length_append] at e; have := HBD.out; omega
      have K3 := fun (W : World) hg => ws_at (w0 := w2) (W := W) (B := w.heap.size) (X := wr.heap.size) (acc := acc) (⟨#[64, 64, 32]⟩ ++ (ofL (spanF hk1.a (sideA hk1.st))) ++ ⟨#[32]⟩ ++ (ofL (spanF hk1.b (sideB hk1.st))) ++ ⟨#[32, 64, 64, 10]⟩) (by omega) (by omega) hXlt (by omega) hx hg
      have HK1 := Lib.hid K1
      have HK3 := Lib.hid K3
      have HX := Lib.hid hx
      have HBel := Lib.hid hBel
      have HSS := Lib.hid (hSS.below (((Below.refl w.heap.size wr).alloc (by omega) _).trans (hb2.mono (by simp; omega))))
      have hst : hk1.st.length ≤ 100000 := s3
      clear K1 K3 z1 z2 z3 hx q5 hSS hBel hbl2 hb hbl hb2 c0 c1 c2
      go_wp2_with fail
      go_region_held3 (fun w' => w'.cell? ⟨wr.heap.size, 0, none⟩ = some (.int .i64 hk1.a) ∧ w'.cell? ⟨wr.heap.size, 1, none⟩ = some (.int .i64 hk1.b))
        (go_keep)
        (first
          | (go_at_call 105; refine (HK1.out _ _ _ (by omega) (by omega) (by assumption) (by assumption) (by assumption)).mono ?_; rintro e w' ⟨rfl, _, _, _⟩)
          | (go_at_call 56; refine (HK3.out _ (by assumption)).mono ?_; rintro e w' ⟨rfl, _, _, hx3, hbl3, hB3, hsz3⟩))
      have d2 : w'.cell? ⟨wr.heap.size, 2, none⟩ = some (.slice Ai hk1.st.length ci) := cell_of_row w' _ _ _ _ (0, 0) hx3
      have hHM : (acc ++ (⟨#[64, 64, 32]⟩ ++ (ofL (spanF hk1.a (sideA hk1.st))) ++ ⟨#[32]⟩ ++ (ofL (spanF hk1.b (sideB hk1.st))) ++ ⟨#[32, 64, 64, 10]⟩ : ByteArray).data.toList) ++ (stepsF hk1.st ++ hunksF (l.drop (k + 1))) = hunksF l := by
        rw [← HM.out]
        show _ = acc ++ (hunkF hk1 ++ hunksF (l.drop (k + 1)))
        have e : (⟨#[64, 64, 32]⟩ ++ (ofL (spanF hk1.a (sideA hk1.st))) ++ ⟨#[32]⟩ ++ (ofL (spanF hk1.b (sideB hk1.st))) ++ ⟨#[32, 64, 64, 10]⟩ : ByteArray) = ofL (headF hk1) := by
          show ofL [64, 64, 32] ++ _ ++ ofL [32] ++ _ ++ ofL [32, 64, 64, 10] = _
          rw [ofL_append, ofL_append, ofL_append, ofL_append]; rfl
        rw [e, ofL_toList]
        simp [hunkF]
      generalize acc ++ (⟨#[64, 64, 32]⟩ ++ (ofL (spanF hk1.a (sideA hk1.st))) ++ ⟨#[32]⟩ ++ (ofL (spanF hk1.b (sideB hk1.st))) ++ ⟨#[32, 64, 64, 10]⟩ : ByteArray).data.toList = acc1 at *
      have HHM := Lib.hid hHM
      have HBel2 := Lib.hid (HBel.out.trans hB3)
      have HSS2 := Lib.hid (HSS.out.below hB3)
      have hLw : w.heap.size < w'.heap.size := by omega
      clear q1 q2 q3 q4 l1 l2 hgood HK1 HK3 d0 d1 hHM HM HSS
      go_wp2
      obtain ⟨wo, rfl⟩ : ∃ wo : World, wo = wr := ⟨_, rfl⟩
      go_loopw [38] (fun j wq => ∃ (q : Nat) (acc2 : List UInt8), q ≤ hk1.st.length ∧ j = .int .i64 q ∧ Hid (acc2 ++ (stepsF (hk1.st.drop q) ++ hunksF (l.drop (k + 1))) = hunksF l) ∧ Bld wq w.heap.size w.heap.size acc2 ∧ Below w.heap.size w' wq) (fun j _ => hk1.st.length - (intOf j).toNat)
      case atStart => exact ⟨0, acc1, Nat.zero_le _, rfl, HHM.out, hbl3, Below.refl _ _⟩
      case round =>
        clear hbl3 HHM
        obtain ⟨q, acc2, hq, rfl, hm2, hbl4, hb4⟩ := hrel
        have hL4 := hbl4.lt
        by_cases hlt2 : q < hk1.st.length
        · obtain ⟨b', off', rfl, hB', e0, e1⟩ := (HSS2.out.below hb4).at_ q hlt2
          have hsx := S4.out _ (List.getElem_mem hlt2)
          have hm3 := hm2.out
          rw [List.drop_eq_getElem_cons hlt2] at hm3
          have hst3 : stepsF (hk1.st[q] :: hk1.st.drop (q + 1)) = hk1.st[q].m :: hk1.st[q].x.data.toList ++ (if hasEndF hk1.st[q].x = true then [] else noEndF) ++ stepsF (hk1.st.drop (q + 1)) := rfl
          rw [hst3] at hm3
          generalize hk1.st[q].m = m at *
          generalize hk1.st[q].x = x at *
          have hacc2 : acc2.length ≤ 100000000 := by
            have e := congrArg List.length hm3; rw [List.length_append] at e; have := HBD.out; omega
          have HM3 := Lib.hid hm3
          clear hm2 hm3 hst3
          go_wp2_with fail
          have hy := heap_alloc_new wr (Obj.cells #[Value.int IntKind.u8 ↑m.toNat, Value.string x] 94)
          refine (writeByte_any w.heap.size w.heap.size acc2 m _ (hbl4.alloc _) (by omega) (by simp; omega)).mono ?_
          rintro e w5 ⟨rfl, hbl5, hk5⟩
          have hy5 := hk5.block hy (by omega) (by decide)
          have e5 : w5.cell? ⟨wr.heap.size, 1, none⟩ = some (.string x) := cell_of_row w5 _ _ _ _ (0, 0) hy5
          have hL5 := hbl5.lt
          have HY5 := Lib.hid hy5
          clear hy hy5 e0 e1
          go_wp2_with fail
          refine (writeString_any w.heap.size w.heap.size _ x _ hbl5 (by rw [List.length_append]; simp; omega) (by omega)).mono ?_
          rintro e w6 ⟨rfl, hbl6, hk6⟩
          have hy6 := hk6.block HY5.out (by omega) (by decide)
          have e6 : w6.cell? ⟨wr.heap.size, 1, none⟩ = some (.string x) := cell_of_row w6 _ _ _ _ (0, 0) hy6
          have hL6 := hbl6.lt
          have HB6 := Lib.hid (((hb4.alloc (by omega) _).trans hk5.1).trans hk6.1)
          clear hy6 e5 hb4 hk5 hk6 hbl4 hbl5
          go_wp2_with fail
          cases he : hasEndF x
          · have hcall := hasEnd_any x w6 hsx
            rw [he] at hcall
            have hm4 := HM3.out
            rw [he] at hm4
            simp only [Bool.false_eq_true, if_false] at hm4
            have HM4 := Lib.hid hm4
            have HC := Lib.hid hcall
            clear hcall hm4 he HM3
            refine HC.out.mono ?_
            rintro e w7 ⟨rfl, rfl⟩
            go_wp2_with fail
            have hlen9 : (acc2 ++ [m] ++ x.data.toList).length + (⟨#[10, 92, 32, 110, 111, 32, 101, 110, 100, 10]⟩ : ByteArray).size ≤ 140737488355328 := by
              have e9 : (⟨#[10, 92, 32, 110, 111, 32, 101, 110, 100, 10]⟩ : ByteArray).size = 10 := rfl
              have ex : x.data.toList.length = x.size := by simp
              rw [List.length_append, List.length_append, e9, ex]
              simp only [List.length_cons, List.length_nil]
              omega
            refine (writeString_any w.heap.size w.heap.size _ ⟨#[10, 92, 32, 110, 111, 32, 101, 110, 100, 10]⟩ _ hbl6 hlen9 (by omega)).mono ?_
            rintro e w8 ⟨rfl, hbl8, hk8⟩
            have HB8 := Lib.hid (HB6.out.trans hk8.1)
            clear hk8 hbl6
            go_wp2
            go_roundw
            case rel =>
              refine ⟨q + 1, _, by omega, by go_num, ?_, hbl8, HB8.out⟩
              unfold Hid
              rw [← HM4.out]
              simp [noEndF]
            case measure => simp [intOf]; omega
          · have hcall := hasEnd_any x w6 hsx
            rw [he] at hcall
            have hm4 := HM3.out
            rw [he] at hm4
            simp only [if_true] at hm4
            have HM4 := Lib.hid hm4
            have HC := Lib.hid hcall
            clear hcall hm4 he HM3
            refine HC.out.mono ?_
            rintro e w7 ⟨rfl, rfl⟩
            go_wp2
            go_roundw
            case rel =>
              refine ⟨q + 1, _, by omega, by go_num, ?_, hbl6, HB6.out⟩
              unfold Hid
              rw [← HM4.out]
              simp
            case measure => simp [intOf]; omega
        · have hm3 := hm2.out
          rw [List.drop_eq_nil_of_le (by omega)] at hm3
          have HM3 := Lib.hid hm3
          have HB4 := Lib.hid (HBel2.out.trans hb4)
          clear hm2 hm3 hb4
          go_wp2
          go_roundw
          case rel => exact ⟨k + 1, acc2, by omega, by go_num, HM3.out, hbl4, HB4.out⟩
          case measure => simp [intOf]; omega
    · have hm1 := hm.out
      rw [List.drop_eq_nil_of_le (by omega)] at hm1
      simp only [hunksF, List.flatMap_nil, List.append_nil] at hm1
      rw [hm1] at hbl
      clear hm hm1
      go_wp2_with fail
      refine (bstring_any w.heap.size w.heap.size _ _ hbl (by omega)).mono ?_
      rintro e w3 ⟨rfl, hk3⟩
      go_wp2
      go_ret
      exact ⟨rfl, hb.trans hk3.1⟩

end Go.Proofs.YtgpmodbndngcoaaDoor
