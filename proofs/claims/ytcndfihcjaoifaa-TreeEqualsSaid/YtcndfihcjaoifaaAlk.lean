/- Alike: labelOf, EqualFunc, tree.Alike; trees without addresses, and what they are without parentheses. -/
import Derived.Test.YtcndfihcjaoifaaBare

namespace Go.Proofs.Ytcndfihcjaoifaa
open Go.RowKit

theorem labelOf_any (x : Nd) (w : World) :
    Calls Try.prog 48 #[x.val] w fun e w' => e = .returned (.agg #[.int .i64 x.op, .string x.s, .int .i64 x.n]) ∧ Below w.heap.size w w' := by
  cases x with
  | mk op s n f t A c l =>
  rw [Nd.val_mk]
  go_enter Try.func48, Try.ntmps48
  go_wp2_with fail
  refine bodyPost_ret (v := .agg #[.int .i64 op, .string s, .int .i64 n]) ?_ rfl ?_
  · rw [results_cell1 rfl]
    go_simp
  · exact ⟨rfl, ((Below.refl w.heap.size w).alloc (Nat.le_refl _) _).alloc (by simp) _⟩

/-- whether two lists are the same, part by part -/
def eqBy (p : Nd → Nd → Bool) : List Nd → List Nd → Bool
  | [], [] => true
  | x :: l, y :: r => p x y && eqBy p l r
  | _, _ => false

theorem eqBy_len {p : Nd → Nd → Bool} : ∀ {l r : List Nd}, l.length ≠ r.length → eqBy p l r = false
  | [], [], h => absurd rfl h
  | [], _ :: _, _ => rfl
  | _ :: _, [], _ => rfl
  | x :: l, y :: r, h => by rw [eqBy, eqBy_len (by simpa using h)]; simp

theorem eqBy_drop {p : Nd → Nd → Bool} {l r : List Nd} {j : Nat} (h1 : j < l.length) (h2 : j < r.length) : eqBy p (l.drop j) (r.drop j) = (p l[j] r[j] && eqBy p (l.drop (j + 1)) (r.drop (j + 1))) := by
  rw [List.drop_eq_getElem_cons h1, List.drop_eq_getElem_cons h2]; rfl

set_option maxHeartbeats 1000000 in
set_option maxRecDepth 100000 in
theorem equalFunc_any (p : Nd → Nd → Bool) (A1 A2 : Option Addr) (c1 c2 : Nat) (l1 l2 : List Nd) (w : World) (h1 : NdSl w w.heap.size A1 l1) (h2 : NdSl w w.heap.size A2 l2)
    (ih : ∀ x ∈ l1, ∀ y ∈ l2, ∀ w : World, x.In w w.heap.size → y.In w w.heap.size → Calls Try.prog 26 #[x.val, y.val] w fun e w' => e = .returned (.bool (p x y)) ∧ Below w.heap.size w w') :
    Calls Try.prog 49 #[.slice A1 l1.length c1, .slice A2 l2.length c2, .func (.func 26) #[] #[]] w fun e w' => e = .returned (.bool (eqBy p l1 l2)) ∧ Below w.heap.size w w' := by
  have hl1 := h1.2.1
  have hl2 := h2.2.1
  by_cases hne : l1.length = l2.length
  · have g0 : ((l1.length : Int) != (l2.length : Int)) = false := by simp; omega
    have HH1 := Lib.hid h1
    have HH2 := Lib.hid h2
    have IH := Lib.hid ih
    have HNE := Lib.hid hne
    clear h1 h2 ih hne
    go_enter Try.func49, Try.ntmps49
    go_wp2_with fail
    go_loopw [17] (fun i wr => ∃ j : Nat, j ≤ l1.length ∧ i = .int .i64 j ∧ Hid (eqBy p (l1.drop j) (l2.drop j) = eqBy p l1 l2) ∧ Below w.heap.size w wr) (fun i _ => l1.length - (intOf i).toNat)
    case atStart => exact ⟨0, Nat.zero_le _, rfl, rfl, Below.refl _ _⟩
    case round =>
      obtain ⟨j, hj, rfl, HP, hb⟩ := hrel
      by_cases hlt : j < l1.length
      · have hlt2 : j < l2.length := by have := HNE.out; omega
        have hlt2I : (j : Int) < (l2.length : Int) := by omega
        obtain ⟨b1, o1, rfl, hB1, p0, p1, p2, p3, p4, p5, hx⟩ := (HH1.out.below hb hb.size).at_ j hlt
        obtain ⟨b2, o2, rfl, hB2, q0, q1, q2, q3, q4, q5, hy⟩ := (HH2.out.below hb hb.size).at_ j hlt2
        have hst := HP.out.symm.trans (eqBy_drop hlt hlt2)
        have cal := IH.out l1[j] (List.getElem_mem _) l2[j] (List.getElem_mem _)
        generalize l1[j] = x at *
        generalize l2[j] = y at *
        obtain ⟨op, s, n, f, t, A, c, l⟩ := x
        obtain ⟨op', s', n', f', t', A', c', l'⟩ := y
        simp only [Nd.A, Nd.c, Nd.l, Nd.op, Nd.s, Nd.n, Nd.f, Nd.t] at *
        rw [Nd.val_mk, Nd.val_mk] at cal
        have HST := Lib.hid hst
        have HX := Lib.hid hx
        have HY := Lib.hid hy
        have CAL := Lib.hid cal
        have HB := Lib.hid hb
        clear hst hx hy cal hb HP HH1 HH2 IH
        go_wp2_with fail
        refine (CAL.out _ ?i1 ?i2).mono ?_
        case i1 => exact HX.out.below (((Below.refl _ _).alloc (Nat.le_refl _) _).alloc (by simp) _) (by simp; omega)
        case i2 => exact HY.out.below (((Below.refl _ _).alloc (Nat.le_refl _) _).alloc (by simp) _) (by simp; omega)
        rintro e w' ⟨rfl, hbw⟩
        have HB2 : Hid (Below w.heap.size w w') := HB.out.trans ((((Below.refl _ _).alloc HB.out.size _).alloc (by have := HB.out.size; simp; omega) _).trans (hbw.mono (by have := HB.out.size; simp; omega)))
        clear hbw HX HY CAL HB
        by_cases hp : p (.mk op s n f t A c l) (.mk op' s' n' f' t' A' c' l') = true
        · have HST2 : Hid (eqBy p (l1.drop (j + 1)) (l2.drop (j + 1)) = eqBy p l1 l2) := by unfold Hid; rw [HST.out, hp]; simp
          rw [hp]
          clear hp HST
          go_wp2_with fail
          go_roundw
          case rel => exact ⟨j + 1, by omega, by go_num, HST2, HB2.out⟩
          case measure => simp [intOf]; omega
        · have hp' : p (.mk op s n f t A c l) (.mk op' s' n' f' t' A' c' l') = false := by simpa using hp
          have HST2 : Hid (eqBy p l1 l2 = false) := by unfold Hid; rw [HST.out, hp']; rfl
          rw [hp']
          clear hp hp' HST
          go_wp2_with fail
          go_ret
          exact ⟨ret_bool HST2.out.symm, HB2.out⟩
      · have HN : Hid (eqBy p l1 l2 = true) := by
          unfold Hid
          rw [← HP.out, List.drop_eq_nil_of_le (by omega), List.drop_eq_nil_of_le (by have := HNE.out; omega)]; rfl
        have HB := Lib.hid hb
        clear HP HH1 HH2 IH hb
        go_wp2_with fail
        go_ret
        exact ⟨ret_bool HN.out.symm, HB.out⟩
  · have g0 : ((l1.length : Int) != (l2.length : Int)) = true := by simp; omega
    have HN : Hid (eqBy p l1 l2 = false) := eqBy_len hne
    clear h1 h2 ih hne
    go_enter Try.func49, Try.ntmps49
    go_wp2_with fail
    go_ret
    exact ⟨ret_bool HN.out.symm, Below.refl _ _⟩

end Go.Proofs.Ytcndfihcjaoifaa
