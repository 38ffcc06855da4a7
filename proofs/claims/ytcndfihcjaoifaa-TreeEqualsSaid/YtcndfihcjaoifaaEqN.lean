/- EqNode, EqNodes: whether two trees are the same, places and all. -/
import Derived.Test.YtcndfihcjaoifaaPlT
import Derived.StillTailTactics
import Derived.Deep.DeepCutAuto
import Derived.Deep.RegionWith
import Derived.Deep.RegionHeld3

namespace Go.Proofs.Ytcndfihcjaoifaa
open Go.RowKit

open Classical in
/-- whether two trees are the same -/
noncomputable def eqn (a b : Nd) : Bool := decide (a.er = b.er)
theorem eqn_iff {a b : Nd} : eqn a b = true ↔ a.er = b.er := by simp [eqn]

theorem eqBy_eqn : ∀ {l r : List Nd}, eqBy eqn l r = true ↔ l.map Nd.er = r.map Nd.er
  | [], [] => by simp [eqBy]
  | [], _ :: _ => by simp [eqBy]
  | _ :: _, [] => by simp [eqBy]
  | x :: l, y :: r => by
    rw [eqBy, Bool.and_eq_true, eqn_iff, eqBy_eqn]
    simp

theorem eqn_mk (op : Int) (s : ByteArray) (n f t : Int) (A : Option Addr) (c : Nat) (l : List Nd) (op' : Int) (s' : ByteArray) (n' f' t' : Int) (A' : Option Addr) (c' : Nat) (l' : List Nd) :
    eqn (.mk op s n f t A c l) (.mk op' s' n' f' t' A' c' l') = (decide (op = op' ∧ s = s' ∧ n = n' ∧ f = f' ∧ t = t') && eqBy eqn l l') := by
  rw [Bool.eq_iff_iff, eqn_iff, Bool.and_eq_true, decide_eq_true_iff, eqBy_eqn, Nd.er_mk, Nd.er_mk]
  simp only [Tr.mk.injEq]
  constructor
  · rintro ⟨h1, h2, h3, h4, h5, h6⟩; exact ⟨⟨h1, h2, h3, h4, h5⟩, h6⟩
  · rintro ⟨⟨h1, h2, h3, h4, h5⟩, h6⟩; exact ⟨h1, h2, h3, h4, h5, h6⟩

set_option maxHeartbeats 2000000 in
set_option maxRecDepth 100000 in
theorem eqNodes_any (A1 A2 : Option Addr) (c1 c2 : Nat) (l1 l2 : List Nd) (w : World) (h1 : NdSl w w.heap.size A1 l1) (h2 : NdSl w w.heap.size A2 l2)
    (ih : ∀ x ∈ l1, ∀ y ∈ l2, ∀ w : World, x.In w w.heap.size → y.In w w.heap.size → Calls Try.prog 15 #[x.val, y.val, .bool true] w fun e w' => e = .returned (.bool (eqn x y)) ∧ Below w.heap.size w w') :
    Calls Try.prog 35 #[.slice A1 l1.length c1, .slice A2 l2.length c2, .bool true] w fun e w' => e = .returned (.bool (eqBy eqn l1 l2)) ∧ Below w.heap.size w w' := by
  have hl1 := h1.2.1
  have hl2 := h2.2.1
  by_cases hne : l1.length = l2.length
  · have g0 : ((l1.length : Int) != (l2.length : Int)) = false := by simp; omega
    have HH1 := Lib.hid h1
    have HH2 := Lib.hid h2
    have IH := Lib.hid ih
    have HNE := Lib.hid hne
    clear h1 h2 ih hne
    go_enter Try.func35, Try.ntmps35
    go_wp2_with fail
    go_loopw [7] (fun i wr => ∃ j : Nat, j ≤ l1.length ∧ i = .int .i64 j ∧ Hid (eqBy eqn (l1.drop j) (l2.drop j) = eqBy eqn l1 l2) ∧ Below w.heap.size w wr) (fun i _ => l1.length - (intOf i).toNat)
    case atStart => exact ⟨0, Nat.zero_le _, rfl, rfl, Below.refl _ _⟩
    case round =>
      obtain ⟨j, hj, rfl, HP, hb⟩ := hrel
      by_cases hlt : j < l1.length
      · have hlt2 : j < l2.length := by have := HNE.out; omega
        have hlt2I : (j : Int) < (l2.length : Int) := by omega
        have hltI : (j : Int) < (l1.length : Int) := by omega
        have hj0 : (0 : Int) ≤ (j : Int) := by omega
        obtain ⟨b1, o1, rfl, hB1, p0, p1, p2, p3, p4, p5, hx⟩ := (HH1.out.below hb hb.size).at_ j hlt
        obtain ⟨b2, o2, rfl, hB2, q0, q1, q2, q3, q4, q5, hy⟩ := (HH2.out.below hb hb.size).at_ j hlt2
        have hst := HP.out.symm.trans (eqBy_drop hlt hlt2)
        have cal := IH.out l1[j] (List.getElem_mem _) l2[j] (List.getElem_mem _)
        generalize l1[j] = x at *
        generalize l2[j] = y at *
        obtain ⟨op, s, n, f, t, A, c, l⟩ := x
        obtain ⟨op', s', n', f', t', A', c', l'⟩ := y
        simp only [Nd.A, Nd.c, Nd.l, Nd.op, Nd.s, Nd.n, Nd.f, Nd.t] at *
        rw [Nd.val_mk, Nd.val_mk] at cal
        have HST := Lib.hid hst
        have HX := Lib.hid hx
        have HY := Lib.hid hy
        have CAL := Lib.hid cal
        have HB := Lib.hid hb
        clear hst hx hy cal hb HP HH1 HH2 IH
        go_wp2_with fail
        go_still_tail 9, (by kernel_rfl)
        have HB1 : Hid (Below w.heap.size w wr.drew) := HB.out.drew
        have HX1 : Hid ((Nd.mk op s n f t A c l).In wr.drew wr.drew.heap.size) := HX.out.below ((Below.refl _ _).drew) (Nat.le_refl _)
        have HY1 : Hid ((Nd.mk op' s' n' f' t' A' c' l').In wr.drew wr.drew.heap.size) := HY.out.below ((Below.refl _ _).drew) (Nat.le_refl _)
        clear p0 p1 p2 p3 p4 p5 q0 q1 q2 q3 q4 q5
        change wpList _ _ _ _ _ wr.drew
        generalize wr.drew = w5 at *
        go_wp2_with fail
        refine (CAL.out _ HX1.out HY1.out).mono ?_
        rintro e w' ⟨rfl, hbw⟩
        have HB2 : Hid (Below w.heap.size w w') := HB1.out.trans (hbw.mono HB1.out.size)
        clear hbw HX HY CAL HB
        by_cases hp : eqn (.mk op s n f t A c l) (.mk op' s' n' f' t' A' c' l') = true
        · have HST2 : Hid (eqBy eqn (l1.drop (j + 1)) (l2.drop (j + 1)) = eqBy eqn l1 l2) := by unfold Hid; rw [HST.out, hp]; simp
          rw [hp]
          clear hp HST
          go_wp2_with fail
          go_roundw
          case rel => exact ⟨j + 1, by omega, by go_num, HST2, HB2.out⟩
          case measure => simp [intOf]; omega
        · have hp' : eqn (.mk op s n f t A c l) (.mk op' s' n' f' t' A' c' l') = false := by simpa using hp
          have HST2 : Hid (eqBy eqn l1 l2 = false) := by unfold Hid; rw [HST.out, hp']; rfl
          rw [hp']
          clear hp hp' HST
          go_wp2_with fail
          go_ret
          exact ⟨ret_bool HST2.out.symm, HB2.out⟩
      · have HN : Hid (eqBy eqn l1 l2 = true) := by
          unfold Hid
          rw [← HP.out, List.drop_eq_nil_of_le (by omega), List.drop_eq_nil_of_le (by have := HNE.out; omega)]; rfl
        have HB := Lib.hid hb
        clear HP HH1 HH2 IH hb
        go_wp2_with fail
        go_ret
        exact ⟨ret_bool HN.out.symm, HB.out⟩
  · have g0 : ((l1.length : Int) != (l2.length : Int)) = true := by simp; omega
    have HN : Hid (eqBy eqn l1 l2 = false) := eqBy_len hne
    clear h1 h2 ih hne
    go_enter Try.func35, Try.ntmps35
    go_wp2_with fail
    go_ret
    exact ⟨ret_bool HN.out.symm, Below.refl _ _⟩

theorem bytes_ext2 {a b : ByteArray} (h : a.toList = b.toList) : a = b := by
  rw [ByteArray.toList_eq, ByteArray.toList_eq] at h
  obtain ⟨⟨x⟩⟩ := a
  obtain ⟨⟨y⟩⟩ := b
  simp at h
  rw [h]

set_option maxHeartbeats 2000000 in
set_option maxRecDepth 100000 in
theorem eqNode_one (a b : Nd) (w : World) (ha : a.In w w.heap.size) (hb : b.In w w.heap.size)
    (ih : ∀ x ∈ a.l, ∀ y ∈ b.l, ∀ w : World, x.In w w.heap.size → y.In w w.heap.size → Calls Try.prog 15 #[x.val, y.val, .bool true] w fun e w' => e = .returned (.bool (eqn x y)) ∧ Below w.heap.size w w') :
    Calls Try.prog 15 #[a.val, b.val, .bool true] w fun e w' => e = .returned (.bool (eqn a b)) ∧ Below w.heap.size w w' := by
  obtain ⟨op, s, n, f, t, A, c, l⟩ := a
  obtain ⟨op', s', n', f', t', A', c', l'⟩ := b
  have HS := Lib.hid (eqn_mk op s n f t A c l op' s' n' f' t' A' c' l')
  generalize eqn (.mk op s n f t A c l) (.mk op' s' n' f' t' A' c' l') = r at *
  simp only [Nd.l] at ih
  have hbw : Below w.heap.size w ((w.alloc (.cells #[.int .i64 op, .string s, .int .i64 n, .int .i64 f, .int .i64 t, .slice A l.length c] 24)).alloc (.cells #[.int .i64 op', .string s', .int .i64 n', .int .i64 f', .int .i64 t', .slice A' l'.length c'] 24)) := ((Below.refl _ _).alloc (Nat.le_refl _) _).alloc (by simp) _
  have cal := eqNodes_any A A' c c' l l' _ (ha.sl.below hbw hbw.size) (hb.sl.below hbw hbw.size) ih
  have HBW := Lib.hid hbw
  have CAL := Lib.hid cal
  clear ha hb ih hbw cal
  rw [Nd.val_mk, Nd.val_mk]
  by_cases q1 : op = op'
  · have b1 : (op != op') = false := by simp [q1]
    by_cases q2 : s = s'
    · have b2 : (s.toList == s'.toList) = true := by simp [q2]
      by_cases q3 : n = n'
      · have b3 : (n != n') = false := by simp [q3]
        by_cases q4 : f = f'
        · have b4 : (f != f') = false := by simp [q4]
          by_cases q5 : t = t'
          · have b5 : (t != t') = false := by simp [q5]
            have HR : Hid (r = eqBy eqn l l') := by unfold Hid; rw [HS.out, decide_eq_true (p := _ ∧ _) ⟨q1, q2, q3, q4, q5⟩, Bool.true_and]
            clear q1 q2 q3 q4 q5
            go_enter Try.func15, Try.ntmps15
            go_wp2_with fail
            refine CAL.out.mono ?_
            rintro e w2 ⟨rfl, hb2⟩
            have HB2 := Lib.hid (HBW.out.trans (hb2.mono HBW.out.size))
            clear hb2 CAL
            go_wp2_with fail
            go_ret
            exact ⟨ret_bool HR.out.symm, HB2.out⟩
          · have b5 : (t != t') = true := by simpa using q5
            have HR : Hid (r = false) := by unfold Hid; rw [HS.out]; simp [q5]
            clear q1 q2 q3 q4 q5 CAL
            go_enter Try.func15, Try.ntmps15
            go_wp2_with fail
            go_ret
            exact ⟨ret_bool HR.out.symm, HBW.out⟩
        · have b4 : (f != f') = true := by simpa using q4
          have HR : Hid (r = false) := by unfold Hid; rw [HS.out]; simp [q4]
          clear q1 q2 q3 q4 CAL
          go_enter Try.func15, Try.ntmps15
          go_wp2_with fail
          go_ret
          exact ⟨ret_bool HR.out.symm, HBW.out⟩
      · have b3 : (n != n') = true := by simpa using q3
        have HR : Hid (r = false) := by unfold Hid; rw [HS.out]; simp [q3]
        clear q1 q2 q3 CAL
        go_enter Try.func15, Try.ntmps15
        go_wp2_with fail
        go_ret
        exact ⟨ret_bool HR.out.symm, HBW.out⟩
    · have b2 : (s.toList == s'.toList) = false := by rw [beq_eq_false_iff_ne]; exact fun e => q2 (bytes_ext2 e)
      have HR : Hid (r = false) := by unfold Hid; rw [HS.out]; simp [q2]
      clear q1 q2 CAL
      go_enter Try.func15, Try.ntmps15
      go_wp2_with fail
      go_ret
      exact ⟨ret_bool HR.out.symm, HBW.out⟩
  · have b1 : (op != op') = true := by simpa using q1
    have HR : Hid (r = false) := by unfold Hid; rw [HS.out]; simp [q1]
    clear q1 CAL
    go_enter Try.func15, Try.ntmps15
    go_wp2_with fail
    go_ret
    exact ⟨ret_bool HR.out.symm, HBW.out⟩

theorem eqNode_any : ∀ (k : Nat) (a b : Nd) (w : World), deepB k a.l = false → a.In w w.heap.size → b.In w w.heap.size →
    Calls Try.prog 15 #[a.val, b.val, .bool true] w fun e w' => e = .returned (.bool (eqn a b)) ∧ Below w.heap.size w w'
  | 0, a, b, w, hda, ha, hb => eqNode_one a b w ha hb fun x hx => by
    rw [deepB_nil hda] at hx
    simp at hx
  | k + 1, a, b, w, hda, ha, hb => eqNode_one a b w ha hb fun x hx y _ w' hx' hy' => eqNode_any k x y w' (deepB_part hda x hx) hx' hy'

end Go.Proofs.Ytcndfihcjaoifaa
