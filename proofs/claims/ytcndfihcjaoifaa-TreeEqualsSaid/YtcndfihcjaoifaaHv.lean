/- What the laws ask first: Deep, Nodes, Texts, Heavy, heavy. -/
import Derived.Test.YtcndfihcjaoifaaNd

namespace Go.Proofs.Ytcndfihcjaoifaa
open Go.RowKit

theorem deepB_take {k : Nat} {l : List Nd} {j : Nat} (hj : j < l.length) (h : deepB (k + 1) (l.take j) = false) (hx : deepB k l[j].l = false) : deepB (k + 1) (l.take (j + 1)) = false := by
  rw [List.take_succ_eq_append_getElem hj]
  simp only [deepB, List.any_append, List.any_cons, List.any_nil, Bool.or_false] at h ⊢
  rw [h, hx]; rfl

theorem deepB_hit {k : Nat} {l : List Nd} {j : Nat} (hj : j < l.length) (hx : deepB k l[j].l = true) : deepB (k + 1) l = true := by
  simp only [deepB, List.any_eq_true]
  exact ⟨l[j], List.getElem_mem _, hx⟩

set_option maxHeartbeats 1000000 in
set_option maxRecDepth 100000 in
theorem deep_any : ∀ (k : Nat) (A : Option Addr) (c : Nat) (l : List Nd) (w : World), k ≤ 300 → NdSl w w.heap.size A l →
    Calls Try.prog 52 #[.slice A l.length c, .int .i64 k] w fun e w' => e = .returned (.bool (deepB k l)) ∧ w = w'
  | 0, A, c, l, w, hk, h => by
    have hl := h.2.1
    by_cases h0 : 0 < l.length
    · have h0I : (0 : Int) < (l.length : Int) := by omega
      have HD : Hid (deepB 0 l = true) := by unfold Hid; cases l <;> simp [deepB] at h0 ⊢
      obtain ⟨b, off, rfl, hb, c0, c1, c2, c3, c4, c5, _⟩ := h.at_ 0 h0
      clear h
      go_enter Try.func52, Try.ntmps52
      go_wp2_with fail
      refine wp_loop_rounds 1 ?_
      rw [rounds_succ]
      go_wp2_with fail
      go_ret
      exact ⟨ret_bool HD.out.symm, rfl⟩
    · have h0' : l = [] := by cases l with | nil => rfl | cons _ _ => simp at h0
      subst h0'
      clear h
      go_enter Try.func52, Try.ntmps52
      go_wp2_with fail
      refine wp_loop_rounds 1 ?_
      rw [rounds_succ]
      go_wp2_with fail
      go_ret
      exact ⟨rfl, rfl⟩
  | k + 1, A, c, l, w, hk, h => by
    have ih := deep_any k
    have hl := h.2.1
    have HH := Lib.hid h
    have IH := Lib.hid ih
    clear h ih
    have hkI : ((k + 1 : Nat) : Int) - 1 = (k : Int) := by omega
    have hk0 : (((k + 1 : Nat) : Int) == 0) = false := by simp; omega
    have hk1 : (1 : Int) ≤ ((k + 1 : Nat) : Int) := by omega
    have hk2 : ((k + 1 : Nat) : Int) ≤ 300 := by omega
    generalize ((k + 1 : Nat) : Int) = kI at *
    go_enter Try.func52, Try.ntmps52
    go_wp2_with fail
    go_loop [5] (fun i => ∃ j : Nat, j ≤ l.length ∧ i = .int .i64 j ∧ Hid (deepB (k + 1) (l.take j) = false)) (fun i => l.length - (intOf i).toNat)
    case atStart => exact ⟨0, Nat.zero_le _, rfl, by unfold Hid; simp [deepB]⟩
    case round =>
      obtain ⟨j, hj, rfl, HP⟩ := hrel
      by_cases hlt : j < l.length
      · obtain ⟨b, off, rfl, hb, c0, c1, c2, c3, c4, c5, hx⟩ := HH.out.at_ j hlt
        have s1 := Lib.hid (fun hx => deepB_take hlt HP.out hx)
        have s2 := Lib.hid (fun hx => deepB_hit (k := k) hlt hx)
        clear c0 c1 c2 c3 c4 HP HH
        generalize l[j] = x at *
        obtain ⟨op, s, n, f, t, A', c', l'⟩ := x
        simp only [Nd.A, Nd.c, Nd.l] at *
        have cal := IH.out A' c' l' w (by omega) hx.sl
        rw [← hkI] at cal
        clear IH hx hkI
        by_cases hd : deepB k l' = true
        · rw [hd] at cal
          have s3 := Lib.hid (s2.out hd)
          clear s1 s2 hd
          go_wp2_with (go_at_call 52; refine cal.mono ?_; rintro e w' ⟨rfl, rfl⟩)
          go_ret
          exact ⟨ret_bool s3.out.symm, rfl⟩
        · have hd' : deepB k l' = false := by simpa using hd
          rw [hd'] at cal
          have s3 := Lib.hid (s1.out hd')
          clear s1 s2 hd hd'
          go_wp2_with (go_at_call 52; refine cal.mono ?_; rintro e w' ⟨rfl, rfl⟩)
          go_round
          case rel => exact ⟨j + 1, by omega, by go_num, s3⟩
          case measure => simp [intOf]; omega
      · have s3 : Hid (deepB (k + 1) l = false) := by unfold Hid; have := HP.out; rwa [List.take_of_length_le (by omega)] at this
        clear HP IH HH hkI
        go_wp2_with fail
        go_ret
        exact ⟨ret_bool s3.out.symm, rfl⟩

/-- what Nodes tells: no more than the limit, then it is the number of nodes -/
def NodesR (m : Int) (d : Nat) (l : List Nd) (r : Int) : Prop := 0 ≤ r ∧ r ≤ m + (d : Int) + 1 ∧ (r ≤ m → r = (cntL l : Int))
def NodesP (m : Int) (d : Nat) (l : List Nd) (w : World) (e : Ending) (w' : World) : Prop := ∃ r : Int, e = .returned (.int .i64 r) ∧ w = w' ∧ NodesR m d l r

set_option maxHeartbeats 1000000 in
set_option maxRecDepth 100000 in
theorem nodes_any : ∀ (d : Nat) (A : Option Addr) (c : Nat) (l : List Nd) (m : Int) (w : World), d ≤ 300 → deepB d l = false → 0 ≤ m → m ≤ 3000 → NdSl w w.heap.size A l →
    Calls Try.prog 53 #[.slice A l.length c, .int .i64 m] w (NodesP m d l w)
  | 0, A, c, l, m, w, hd, hdp, hm, hm2, h => by
    obtain rfl := deepB_nil hdp
    have hN : NodesP m 0 [] w (.returned (.int .i64 0)) w := ⟨0, rfl, rfl, Int.le_refl 0, by omega, fun _ => by simp [cntL]⟩
    have HN := Lib.hid hN
    clear h hdp hN
    go_enter Try.func53, Try.ntmps53
    go_wp2_with fail
    refine wp_loop_rounds 1 ?_
    rw [rounds_succ]
    go_wp2_with fail
    go_ret
    exact HN.out
  | d + 1, A, c, l, m, w, hd, hdp, hm, hm2, h => by
    have ih := nodes_any d
    have hl := h.2.1
    have HH := Lib.hid h
    have IH := Lib.hid ih
    have HDP := Lib.hid hdp
    clear h ih hdp
    go_enter Try.func53, Try.ntmps53
    go_wp2_with fail
    go_loop [5, 6] (fun vn i => ∃ (j : Nat) (nn : Int), j ≤ l.length ∧ vn = .int .i64 nn ∧ i = .int .i64 j ∧ 0 ≤ nn ∧ nn ≤ m + (d : Int) + 2 ∧ Hid (nn ≤ m → nn = (cntL (l.take j) : Int))) (fun _ i => l.length - (intOf i).toNat)
    case atStart => exact ⟨0, 0, Nat.zero_le _, rfl, rfl, Int.le_refl 0, by omega, fun _ => by simp [cntL]⟩
    case round =>
      obtain ⟨j, nn, hj, rfl, rfl, hn0, hn1, HP⟩ := hrel
      by_cases hlt : j < l.length
      · by_cases hle : nn ≤ m
        · obtain ⟨b, off, rfl, hb, c0, c1, c2, c3, c4, c5, hx⟩ := HH.out.at_ j hlt
          have s1 := Lib.hid (cntL_take l j hlt)
          have hdx := deepB_part HDP.out l[j] (List.getElem_mem _)
          clear c0 c1 c2 c3 c4 HH
          generalize l[j] = x at *
          obtain ⟨op, s, n, f, t, A', c', l'⟩ := x
          simp only [Nd.A, Nd.c, Nd.l] at *
          have cal := IH.out A' c' l' (m - nn) w (by omega) hdx (by omega) (by omega) hx.sl
          clear IH hx HDP hdx
          go_wp2_with (go_at_call 53; refine cal.mono ?_; rintro e w' ⟨r, rfl, rfl, hr0, hr1, hr2⟩; have HR := Lib.hid hr2; clear hr2)
          go_round
          case rel =>
            refine ⟨j + 1, nn + 1 + r, by omega, rfl, by go_num, by omega, by omega, fun hh => ?_⟩
            have e1 := HP.out hle
            have e2 := HR.out (by omega)
            have e3 := s1.out
            omega
          case measure => simp [intOf]; omega
        · have hN : NodesP m (d + 1) l w (.returned (.int .i64 nn)) w := ⟨nn, rfl, rfl, hn0, by omega, fun hh => absurd hh hle⟩
          have HN := Lib.hid hN
          clear HP IH HH HDP hN
          go_wp2_with fail
          go_ret
          exact HN.out
      · have hN : NodesP m (d + 1) l w (.returned (.int .i64 nn)) w := ⟨nn, rfl, rfl, hn0, by omega, fun hh => by have := HP.out hh; rwa [List.take_of_length_le (by omega)] at this⟩
        have HN := Lib.hid hN
        clear HP IH HH HDP hN
        by_cases hle : nn ≤ m
        · go_wp2_with fail
          go_ret
          exact HN.out
        · go_wp2_with fail
          go_ret
          exact HN.out

/-- some number -/
def SomeI (w : World) (e : Ending) (w' : World) : Prop := ∃ r : Int, e = .returned (.int .i64 r) ∧ w = w'

set_option maxHeartbeats 1000000 in
set_option maxRecDepth 100000 in
theorem texts_any : ∀ (d : Nat) (A : Option Addr) (c : Nat) (l : List Nd) (m : Int) (w : World), d ≤ 300 → deepB d l = false → NdSl w w.heap.size A l →
    Calls Try.prog 54 #[.slice A l.length c, .int .i64 m] w (SomeI w)
  | 0, A, c, l, m, w, hd, hdp, h => by
    obtain rfl := deepB_nil hdp
    have HN : ∀ r, Hid (SomeI w (.returned (.int .i64 r)) w) := fun r => ⟨r, rfl, rfl⟩
    clear h hdp
    go_enter Try.func54, Try.ntmps54
    go_wp2_with fail
    refine wp_loop_rounds 1 ?_
    rw [rounds_succ]
    go_wp2_with fail
    all_goals go_ret
    all_goals exact (HN _).out
  | d + 1, A, c, l, m, w, hd, hdp, h => by
    have ih := texts_any d
    have hl := h.2.1
    have HH := Lib.hid h
    have IH := Lib.hid ih
    have HDP := Lib.hid hdp
    have HN : ∀ r, Hid (SomeI w (.returned (.int .i64 r)) w) := fun r => ⟨r, rfl, rfl⟩
    clear h ih hdp
    go_enter Try.func54, Try.ntmps54
    go_wp2_with fail
    go_loop [5, 6] (fun vn i => ∃ (j : Nat) (nn : Int), j ≤ l.length ∧ vn = .int .i64 nn ∧ i = .int .i64 j) (fun _ i => l.length - (intOf i).toNat)
    case atStart => exact ⟨0, 0, Nat.zero_le _, rfl, rfl⟩
    case round =>
      obtain ⟨j, nn, hj, rfl, rfl⟩ := hrel
      by_cases hlt : j < l.length
      · by_cases hle : nn ≤ m
        · obtain ⟨b, off, rfl, hb, c0, c1, c2, c3, c4, c5, hx⟩ := HH.out.at_ j hlt
          have hdx := deepB_part HDP.out l[j] (List.getElem_mem _)
          clear c0 c2 c3 c4 HH
          generalize l[j] = x at *
          obtain ⟨op, s, n, f, t, A', c', l'⟩ := x
          simp only [Nd.A, Nd.c, Nd.l, Nd.s] at *
          have cal := fun mm => IH.out A' c' l' mm w (by omega) hdx hx.sl
          have CAL := Lib.hid cal
          clear IH hx HDP hdx cal
          go_wp2_with (go_at_call 54; refine (CAL.out _).mono ?_; rintro e w' ⟨r, rfl, rfl⟩)
          all_goals
            go_round
            case rel => exact ⟨j + 1, _, by omega, rfl, by go_num⟩
            case measure => simp [intOf]; omega
        · clear IH HH HDP
          go_wp2_with fail
          all_goals go_ret
          all_goals exact (HN _).out
      · clear IH HH HDP
        by_cases hle : nn ≤ m
        · go_wp2_with fail
          all_goals go_ret
          all_goals exact (HN _).out
        · go_wp2_with fail
          all_goals go_ret
          all_goals exact (HN _).out

end Go.Proofs.Ytcndfihcjaoifaa
