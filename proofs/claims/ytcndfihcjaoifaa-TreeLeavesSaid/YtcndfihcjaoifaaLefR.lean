/- The document's Leaf, and lists of numbers compared. -/
import Derived.Test.YtcndfihcjaoifaaLeaf
import Derived.Laws.AppendOwnNone

namespace Go.Proofs.Ytcndfihcjaoifaa
open Go.RowKit Go.Maps

set_option maxHeartbeats 2000000 in
set_option maxRecDepth 100000 in
theorem refLeaf_one (tok : Int) (k : Nat) (x : Nd) (w : World) (hk : k ≤ 299) (hd : deepB k x.l = false) (h : x.In w w.heap.size)
    (ih : ∀ k', k = k' + 1 → ∀ (y : Nd) (w : World), deepB k' y.l = false → y.In w w.heap.size → Calls Try.prog 24 #[y.val, .int .i64 tok] w (LeafP tok y w)) :
    Calls Try.prog 24 #[x.val, .int .i64 tok] w (LeafP tok x w) := by
    have IH := Lib.hid ih
    clear ih
    cases x with
    | mk op s n f t A c l =>
    obtain ⟨i0, hi, hz0, hz1, hz2⟩ := info_parts infoIntT
    have hl := h.sl.2.1
    by_cases hh : hasB tok (.mk op s n f t A c l) = true
    · have h1 : f ≤ tok ∧ tok < t := by
        simp only [hasB, Nd.f, Nd.t, Bool.and_eq_true] at hh
        exact ⟨of_decide_eq_true hh.1, of_decide_eq_true hh.2⟩
      have HH := Lib.hid h
      have HD := Lib.hid hd
      have HQ := Lib.hid hh
      have T0 := Lib.hid (NBlk.new w op s n f t A c l)
      obtain ⟨h1a, h1b⟩ := h1
      have TB : Hid (Below w.heap.size w (w.alloc (.cells #[.int .i64 op, .string s, .int .i64 n, .int .i64 f, .int .i64 t, .slice A l.length c] 24))) := (Below.refl _ _).alloc (Nat.le_refl _) _
      obtain ⟨W0, hW0⟩ : ∃ W0, W0 = (w.alloc (.cells #[.int .i64 op, .string s, .int .i64 n, .int .i64 f, .int .i64 t, .slice A l.length c] 24)) := ⟨_, rfl⟩
      rw [← hW0] at T0 TB
      have HW0 := Lib.hid hW0
      clear h hd hh hW0
      rw [Nd.val_mk]
      go_enter Try.func24, Try.ntmps24
      go_wp2_with fail
      rw [← HW0.out]
      go_loopw [6] (fun i wr => ∃ j : Nat, j ≤ l.length ∧ i = .int .i64 j ∧ Hid (∀ q (hq : q < l.length), q < j → hasB tok l[q] = false) ∧ Hid (wr = W0)) (fun i _ => l.length - (intOf i).toNat)
      case atStart => exact ⟨0, Nat.zero_le _, rfl, (fun q _ h => by omega), rfl⟩
      case round =>
        obtain ⟨j, hj, rfl, HP, HWR⟩ := hrel
        obtain rfl := HWR.out
        clear HWR
        obtain ⟨c0, c1, c2, c3, c4, c5⟩ := T0.out.cells
        by_cases hjl : j < l.length
        · obtain ⟨b, off, rfl, hB, p0, p1, p2, p3, p4, p5, hx⟩ := (HH.out.sl.below TB.out TB.out.size).at_ j hjl
          have hdp : ∀ k', k = k' + 1 → deepB k' l[j].l = false := fun k' e => by subst e; exact deepB_part HD.out l[j] (List.getElem_mem _)
          have hit : hasB tok l[j] = true → (Nd.mk op s n f t (some ⟨b, off, none⟩) c l).leafN tok = ((j : Nat) : Int) :: l[j].leafN tok := fun e => by
            rw [Nd.leafN, leafL_hit tok l 0 j hjl HP.out e, Nat.zero_add]
          have miss : hasB tok l[j] = false → ∀ q (hq : q < l.length), q < j + 1 → hasB tok l[q] = false := fun e q hq hqj => by
            by_cases hqj2 : q = j
            · subst hqj2; exact e
            · exact HP.out q hq (by omega)
          generalize l[j] = y at *
          obtain ⟨op2, s2, n2, f2, t2, A2, l2c, l2⟩ := y
          simp only [Nd.A, Nd.c, Nd.l, Nd.op, Nd.s, Nd.n, Nd.f, Nd.t] at p0 p1 p2 p3 p4 p5 hdp
          have HIT := Lib.hid hit
          have MISS := Lib.hid miss
          have HDP := Lib.hid hdp
          have HX := Lib.hid hx
          clear hit miss hdp hx HP
          by_cases q1 : f2 ≤ tok
          · by_cases q2 : tok < t2
            · cases k with
              | zero =>
                have := deepB_nil HD.out
                simp only [Nd.l] at this
                subst this
                simp at hjl
              | succ k =>
              have hb2 : hasB tok (.mk op2 s2 n2 f2 t2 A2 l2c l2) = true := by simp [hasB, Nd.f, Nd.t, q1, q2]
              have cal := IH.out k rfl (.mk op2 s2 n2 f2 t2 A2 l2c l2) wr (HDP.out k rfl) HX.out
              have HIT2 := Lib.hid (HIT.out hb2)
              have HYB := Lib.hid hb2
              have hlen := leafN_len tok k (.mk op2 s2 n2 f2 t2 A2 l2c l2) (HDP.out k rfl)
              rw [Nd.val_mk] at cal
              have CAL := Lib.hid cal
              clear HIT MISS HDP HX hb2 cal
              go_wp2_with fail
              refine CAL.out.mono ?_
              rintro e w3 ⟨hb3, ⟨e1, _⟩ | ⟨_, PA, pc, rfl, hR, hN⟩⟩
              · rw [HYB.out] at e1; cases e1
              · obtain ⟨ys, hys⟩ : ∃ ys, ys = (Nd.mk op2 s2 n2 f2 t2 A2 l2c l2).leafN tok := ⟨_, rfl⟩
                rw [← hys] at hR hN hlen HIT2 ⊢
                have HB3 : Hid (Below w.heap.size w w3) := TB.out.trans (hb3.mono TB.out.size)
                have HR := Lib.hid hR
                have HPL : Hid (Below w3.heap.size w3 (w3.alloc (.cells #[.int .i64 (j : Nat)] 3))) := (Below.refl _ _).alloc (Nat.le_refl _) _
                have HO : Hid ((w3.alloc (.cells #[.int .i64 (j : Nat)] 3)).ownsRow w3.heap.size 3 1 (.slice (some ⟨w3.heap.size, 0, none⟩) 1 1) 1 [.int .i64 (j : Nat)]) :=
                  World.ownsRow_lit w3 #[.int .i64 (j : Nat)] 1 (Nat.le_refl _) (by unfold maxLen; omega) rfl
                rcases PA with _ | ad
                · obtain ⟨rfl, hn⟩ := hN rfl
                  subst hn
                  have HN : Hid (LeafP tok (.mk op s n f t (some ⟨b, off, none⟩) c l) w (.returned (.tuple #[.slice (some ⟨w3.heap.size, 0, none⟩) 1 1, .int .i64 0])) (w3.alloc (.cells #[.int .i64 (j : Nat)] 3))) := by
                    refine ⟨HB3.out.alloc HB3.out.size _, .inr ⟨HQ.out, some ⟨w3.heap.size, 0, none⟩, 1, by rw [HIT2.out]; rfl, ?_, fun e => by cases e⟩⟩
                    rw [HIT2.out]
                    exact Rd.of_own HO.out
                  clear hN hR hys hb3 HIT2 HYB CAL HR HH HD
                  go_wp2_with (at_builtin; refine wpList_append_own_none rfl (.tmp 55) (.tmp 56) 25 rfl w3.heap.size 3 i0 1 Try.underlying25 hi _ 1 _ rfl HO.out rfl ?_)
                  go_ret2
                  exact HN.out
                · have HNEW : Hid (∀ (q : Nat) (u : Value), (ints ys)[q]? = some u → (w3.alloc (.cells #[.int .i64 (j : Nat)] 3)).cell? (ad.add q) = some u) := Rd.at_add (HR.out.below HPL.out)
                  clear hN hR hys hb3 HYB CAL HR HH HD
                  go_wp2_with (at_builtin; refine wpList_append_own _ rfl (.tmp 55) (.tmp 56) 25 rfl w3.heap.size 3 i0 _ 1 8 Try.underlying25 hi hz0 hz1 hz2 rfl (by decide) _ 1 [.int .i64 (j : Nat)] rfl HO.out ad ys.length pc (ints ys) rfl (by simp [ints]) HNEW.out (by intro u hu; obtain ⟨z, _, rfl⟩ := List.mem_map.1 hu; rfl) (by unfold maxLen; omega) (by omega) (by simp) ?_; intro v' w4 hown' hg _; obtain ⟨PA', pc', rfl⟩ := own_lenT hown'; have HO4 := Lib.hid hown'; have HG4 := Lib.hid hg; clear hown' hg)
                  go_ret2
                  refine ⟨HB3.out.trans ((HPL.out.trans ((grow_belowT HG4.out HO.out (by simp)).mono (Nat.le_refl _))).mono HB3.out.size), .inr ⟨HQ.out, PA', pc', ?_, ?_, ?_⟩⟩
                  · rw [HIT2.out, List.length_cons, Nat.add_comm ys.length 1]; rfl
                  · rw [HIT2.out]; exact Rd.of_own HO4.out
                  · intro e; subst e; have := (own_noneT HO4.out).2; omega
            · have q2' : (decide (tok < t2)) = false := by simpa using q2
              have MS := Lib.hid (MISS.out (by simp [hasB, Nd.f, Nd.t, q2]))
              clear HIT MISS HDP HX
              go_wp2_with fail
              go_roundw
              case rel => exact ⟨j + 1, by omega, by go_num, MS, by unfold Hid; first | rfl | trivial⟩
              case measure => simp [intOf]; omega
          · have q1' : (decide (f2 ≤ tok)) = false := by simpa using q1
            have MS := Lib.hid (MISS.out (by simp [hasB, Nd.f, Nd.t, q1]))
            clear HIT MISS HDP HX
            go_wp2_with fail
            go_roundw
            case rel => exact ⟨j + 1, by omega, by go_num, MS, by unfold Hid; first | rfl | trivial⟩
            case measure => simp [intOf]; omega
        · have HN : Hid (LeafP tok (.mk op s n f t A c l) w (.returned (.tuple #[.slice none 0 0, .int .i64 0])) wr) := by
            have e : (Nd.mk op s n f t A c l).leafN tok = [] := by rw [Nd.leafN, leafL_none tok l 0 fun q hq => HP.out q hq (by omega)]
            refine ⟨TB.out, .inr ⟨HQ.out, none, 0, by rw [e]; rfl, ?_, fun _ => ⟨rfl, e⟩⟩⟩
            rw [e]; exact Rd.nil
          clear HP HH HD
          go_wp2_with fail
          go_ret2
          exact HN.out
    · have h1 : ¬ (f ≤ tok ∧ tok < t) := by
        simp only [hasB, Nd.f, Nd.t, Bool.and_eq_true] at hh
        exact fun g => hh ⟨decide_eq_true g.1, decide_eq_true g.2⟩
      have HN : Hid (LeafP tok (.mk op s n f t A c l) w (.returned (.tuple #[.slice none 0 0, .int .i64 4])) (w.alloc (.cells #[.int .i64 op, .string s, .int .i64 n, .int .i64 f, .int .i64 t, .slice A l.length c] 24))) :=
        ⟨(Below.refl _ _).alloc (Nat.le_refl _) _, .inl ⟨by simpa using hh, rfl⟩⟩
      clear h hd hh
      rw [Nd.val_mk]
      by_cases q1 : tok < f
      · clear h1
        go_enter Try.func24, Try.ntmps24
        go_wp2_with fail
        go_ret2
        exact HN.out
      · have q2 : t ≤ tok := by omega
        clear h1
        go_enter Try.func24, Try.ntmps24
        go_wp2_with fail
        go_ret2
        exact HN.out

theorem refLeaf_any (tok : Int) : ∀ (k : Nat) (x : Nd) (w : World), k ≤ 299 → deepB k x.l = false → x.In w w.heap.size →
    Calls Try.prog 24 #[x.val, .int .i64 tok] w (LeafP tok x w)
  | 0, x, w, hk, hd, h => refLeaf_one tok 0 x w hk hd h fun k' e => by omega
  | k + 1, x, w, hk, hd, h => refLeaf_one tok (k + 1) x w hk hd h fun k' e y w' hd' h' => by
    obtain rfl : k = k' := by omega
    exact refLeaf_any tok k y w' (by omega) hd' h'

/-- the slice value reads as numbers -/
theorem eqInts_any (A1 A2 : Option Addr) (c1 c2 : Nat) (xs ys : List Int) (w : World) (hx : xs.length ≤ 1000000) (hy : ys.length ≤ 1000000) (h1 : Rd w w.heap.size A1 (ints xs)) (h2 : Rd w w.heap.size A2 (ints ys)) (he : xs = ys) :
    Calls Try.prog 25 #[.slice A1 xs.length c1, .slice A2 ys.length c2] w fun e w' => e = .returned (.bool true) ∧ Below w.heap.size w w' := by
  subst he
  have g0 : ((xs.length : Int) != (xs.length : Int)) = false := by simp
  have H1 := Lib.hid h1
  have H2 := Lib.hid h2
  clear h1 h2
  go_enter Try.func25, Try.ntmps25
  go_wp2_with fail
  go_loopw [5] (fun i wr => ∃ j : Nat, j ≤ xs.length ∧ i = .int .i64 j ∧ Below w.heap.size w wr) (fun i _ => xs.length - (intOf i).toNat)
  case atStart => exact ⟨0, Nat.zero_le _, rfl, Below.refl _ _⟩
  case round =>
    obtain ⟨j, hj, rfl, hb⟩ := hrel
    by_cases hlt : j < xs.length
    · have hjx : (ints xs)[j]? = some (.int .i64 xs[j]) := by simp [ints, hlt]
      obtain ⟨b1, o1, rfl, hB1, k1⟩ := (H1.out.below hb) (by simp [ints]; omega)
      obtain ⟨b2, o2, rfl, hB2, k2⟩ := (H2.out.below hb) (by simp [ints]; omega)
      have p1 := k1 j _ hjx
      have p2 := k2 j _ hjx
      generalize xs[j] = z at *
      have g1 : (z != z) = false := by simp
      have HB := Lib.hid hb
      clear k1 k2 hjx hb H1 H2
      go_wp2
      go_quiet (fail)
      go_wp2
      go_roundw
      case rel => exact ⟨j + 1, by omega, by go_num, below_drawn HB.out _⟩
      case measure => simp [intOf]; omega
    · have HB := Lib.hid hb
      clear hb H1 H2
      go_wp2_with fail
      go_ret
      exact ⟨rfl, HB.out⟩

end Go.Proofs.Ytcndfihcjaoifaa
