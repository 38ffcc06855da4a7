/- The document's moved. -/
import Derived.Test.YtgpmodbndngcoaaDoorRefOvF
import Derived.Test.YtgpmodbndngcoaaDoorRefOrd
import Derived.Deep.DrawnRows
namespace Go.Proofs.YtgpmodbndngcoaaDoor
open Go.RowKit Go.Maps
attribute [local go_sem ↓] Go.wp_at_zero Go.wp_at_succ

theorem movedF_bound (x : Ed) : ∀ l : List Ed, SmallT l → (∀ y ∈ l, rangeOk 200000 y) → - (l.length * 200000 : Int) ≤ movedF x l ∧ movedF x l ≤ l.length * 1000000
  | [], _, _ => by simp [movedF]
  | y :: l, hs, hr => by
    have ih := movedF_bound x l (fun z hz => hs z (by simp [hz])) (fun z hz => hr z (by simp [hz]))
    have h1 := hs y (by simp)
    have h2 := hr y (by simp)
    unfold rangeOk at h2
    rw [movedF]
    simp only [List.length_cons]
    split <;> omega

set_option maxHeartbeats 4000000 in
set_option maxRecDepth 100000 in
theorem moved_any (x : Ed) (A : Option Addr) (c : Nat) (l : List Ed) (w : World) (hl : l.length ≤ 10000) (hT : SmallT l) (hR : ∀ y ∈ l, rangeOk 200000 y) (hx : 0 ≤ x.f ∧ x.f ≤ 200000) (h : ESl w w.heap.size A l) :
    Calls Tryd.prog 69 #[.agg #[.int .i64 x.f, .int .i64 x.t, .string x.s], .slice A l.length c] w fun e w' => e = .returned (.int .i64 (movedF x l)) ∧ Below w.heap.size w w' := by
  obtain ⟨hx1, hx2⟩ := hx
  have hbd := fun k => movedF_bound x (l.take k) (fun y hy => hT y (List.mem_of_mem_take hy)) (fun y hy => hR y (List.mem_of_mem_take hy))
  have hbd2 : ∀ k, -2000000000 ≤ movedF x (l.take k) ∧ movedF x (l.take k) ≤ 10000000000 := fun k => by
    have := hbd k
    have h : (l.take k).length ≤ 10000 := by rw [List.length_take]; omega
    omega
  have HBD := Lib.hid hbd2
  have HT := Lib.hid hT
  have HR := Lib.hid hR
  have HH := Lib.hid h
  have hxb := heap_alloc_new w (.cells #[.int .i64 x.f, .int .i64 x.t, .string x.s] 46)
  have HXB := Lib.hid hxb
  have HB0 := Lib.hid ((Below.refl w.heap.size w).alloc (Nat.le_refl _) (.cells #[.int .i64 x.f, .int .i64 x.t, .string x.s] 46))
  clear hbd hbd2 hT hR h hxb
  go_enter Tryd.func69, Tryd.ntmps69
  go_wp2
  go_loopw [5, 6] (fun vb vi wr => ∃ k : Nat, k ≤ l.length ∧ vi = .int .i64 k ∧ vb = .int .i64 (movedF x (l.take k)) ∧ Hid (Below (w.heap.size + 1) (w.alloc (.cells #[.int .i64 x.f, .int .i64 x.t, .string x.s] 46)) wr)) (fun _ vi _ => l.length - (intOf vi).toNat)
  case atStart => exact ⟨0, Nat.zero_le _, rfl, rfl, Below.refl _ _⟩
  case round =>
    obtain ⟨k, hk, rfl, rfl, hbi⟩ := hrel
    obtain ⟨wy, rfl⟩ : ∃ wy : World, wy = wr := ⟨_, rfl⟩
    obtain ⟨g1, g2⟩ := HBD.out k
    have hyz := hbi.out.size
    rw [show (w.alloc (.cells #[.int .i64 x.f, .int .i64 x.t, .string x.s] 46)).heap.size = w.heap.size + 1 by simp] at hyz
    have hby : Below w.heap.size w wy := HB0.out.trans (hbi.out.mono (by omega))
    have hxy := (hbi.out.block w.heap.size (by omega)).trans HXB.out
    have e0 : wy.cell? ⟨w.heap.size, 0, none⟩ = some (.int .i64 x.f) := cell_of_row _ _ 0 _ _ (0, 0) hxy
    have e1 : wy.cell? ⟨w.heap.size, 1, none⟩ = some (.int .i64 x.t) := cell_of_row _ _ 1 _ _ (0, 0) hxy
    have e2 : wy.cell? ⟨w.heap.size, 2, none⟩ = some (.string x.s) := cell_of_row _ _ 2 _ _ (0, 0) hxy
    clear hxy
    by_cases hlt : k < l.length
    · obtain ⟨b1, o1, rfl, hb1, y0, y1, y2⟩ := (HH.out.below hby).at_ k hlt
      have hst := movedF_take x l k hlt
      have hry := HR.out _ (List.getElem_mem hlt)
      have hty := HT.out _ (List.getElem_mem hlt)
      unfold rangeOk at hry
      obtain ⟨hr1, hr2, hr3⟩ := hry
      have hbf := fun W => before_any l[k] x W
      have hlb : ltE' l[k] x = decide (cmpE l[k] x < 0) := rfl
      rw [hlb] at hst
      generalize l[k] = y at *
      generalize hG : movedF x (l.take k) = G at *
      have i1 : (0 : Int) ≤ (k : Int) := by omega
      have i2 : (k : Int) < (l.length : Int) := by omega
      have hbd : Below wy.heap.size wy wy.drew := (Below.refl _ _).drew
      clear hlb hG
      by_cases q1 : cmpE y x < 0
      · rw [decide_eq_true q1] at hbf hst
        have HBF := Lib.hid hbf
        by_cases q2 : y.t ≤ x.f
        · have p2 : decide (y.t ≤ x.f) = true := by simp [q2]
          rw [p2] at hst
          have HST := Lib.hid hst
          clear hbf hst q1
          go_wp2_with fail
          go_region_held3 (fun w' => w'.cell? ⟨b1, o1 + k * 3, none⟩ = some (.int .i64 y.f) ∧ w'.cell? ⟨b1, o1 + k * 3 + 1, none⟩ = some (.int .i64 y.t) ∧ w'.cell? ⟨b1, o1 + k * 3 + 2, none⟩ = some (.string y.s) ∧ w'.cell? ⟨w.heap.size, 0, none⟩ = some (.int .i64 x.f) ∧ w'.cell? ⟨w.heap.size, 1, none⟩ = some (.int .i64 x.t) ∧ w'.cell? ⟨w.heap.size, 2, none⟩ = some (.string x.s) ∧ Below wy.heap.size wy w')
            (go_keep)
            ((go_at_call 96; refine (HBF.out _).mono ?_; rintro e w' ⟨rfl, hbt⟩; have f1 : w'.cell? ⟨b1, o1 + k * 3, none⟩ = some (.int .i64 y.f) := below_cells' hbt (by assumption); have f2 : w'.cell? ⟨b1, o1 + k * 3 + 1, none⟩ = some (.int .i64 y.t) := below_cells' hbt (by assumption); have f3 : w'.cell? ⟨b1, o1 + k * 3 + 2, none⟩ = some (.string y.s) := below_cells' hbt (by assumption); have f4 : w'.cell? ⟨w.heap.size, 0, none⟩ = some (.int .i64 x.f) := below_cells' hbt (by assumption); have f5 : w'.cell? ⟨w.heap.size, 1, none⟩ = some (.int .i64 x.t) := below_cells' hbt (by assumption); have f6 : w'.cell? ⟨w.heap.size, 2, none⟩ = some (.string x.s) := below_cells' hbt (by assumption); have f7 : Below wy.heap.size wy w' := Below.trans (by assumption) (hbt.mono (Below.size (by assumption)))))
          have HB7 := Lib.hid (hbi.out.trans (f7.mono hyz))
          have s1 : IntKind.i64.wrap (G + (y.s.size : Int)) = G + y.s.size := IntWalk.i64_in _ (by omega)
          have s2 : IntKind.i64.wrap (y.t - y.f) = y.t - y.f := IntWalk.i64_in _ (by omega)
          have s3 : IntKind.i64.wrap (G + (y.s.size : Int) - (y.t - y.f)) = G + y.s.size - (y.t - y.f) := IntWalk.i64_in _ (by omega)
          clear f7 hbd
          go_wp2_with fail
          go_quiet (fail)
          clear s1 s2 s3
          go_wp2
          go_roundw
          case rel => exact ⟨k + 1, by omega, by go_num, by rw [HST.out]; simp only [Bool.and_self, if_true]; go_num, below_drawn HB7.out _⟩
          case measure => simp [intOf]; omega
        · have p2 : decide (y.t ≤ x.f) = false := by simp; omega
          rw [p2] at hst
          have HST := Lib.hid hst
          clear hbf hst q1
          go_wp2_with fail
          go_region_held3 (fun w' => w'.cell? ⟨b1, o1 + k * 3, none⟩ = some (.int .i64 y.f) ∧ w'.cell? ⟨b1, o1 + k * 3 + 1, none⟩ = some (.int .i64 y.t) ∧ w'.cell? ⟨b1, o1 + k * 3 + 2, none⟩ = some (.string y.s) ∧ w'.cell? ⟨w.heap.size, 0, none⟩ = some (.int .i64 x.f) ∧ w'.cell? ⟨w.heap.size, 1, none⟩ = some (.int .i64 x.t) ∧ w'.cell? ⟨w.heap.size, 2, none⟩ = some (.string x.s) ∧ Below wy.heap.size wy w')
            (go_keep)
            ((go_at_call 96; refine (HBF.out _).mono ?_; rintro e w' ⟨rfl, hbt⟩; have f1 : w'.cell? ⟨b1, o1 + k * 3, none⟩ = some (.int .i64 y.f) := below_cells' hbt (by assumption); have f2 : w'.cell? ⟨b1, o1 + k * 3 + 1, none⟩ = some (.int .i64 y.t) := below_cells' hbt (by assumption); have f3 : w'.cell? ⟨b1, o1 + k * 3 + 2, none⟩ = some (.string y.s) := below_cells' hbt (by assumption); have f4 : w'.cell? ⟨w.heap.size, 0, none⟩ = some (.int .i64 x.f) := below_cells' hbt (by assumption); have f5 : w'.cell? ⟨w.heap.size, 1, none⟩ = some (.int .i64 x.t) := below_cells' hbt (by assumption); have f6 : w'.cell? ⟨w.heap.size, 2, none⟩ = some (.string x.s) := below_cells' hbt (by assumption); have f7 : Below wy.heap.size wy w' := Below.trans (by assumption) (hbt.mono (Below.size (by assumption)))))
          have HB7 := Lib.hid (hbi.out.trans (f7.mono hyz))
          clear f7 hbd
          go_wp2
          go_roundw
          case rel => exact ⟨k + 1, by omega, by go_num, by rw [HST.out]; simp, HB7.out⟩
          case measure => simp [intOf]; omega
      · rw [decide_eq_false q1] at hbf hst
        have HBF := Lib.hid hbf
        have HST := Lib.hid hst
        clear hbf hst q1
        go_wp2_with fail
        first
          | (go_region_with ((go_at_call 96; refine (HBF.out _).mono ?_; rintro e w' ⟨rfl, hbt⟩; have f7 : Below wy.heap.size wy w' := Below.trans hbd hbt; clear hbt)))
          | fail
        all_goals
          have HB7 := Lib.hid (hbi.out.trans (Below.mono (show Below wy.heap.size wy _ by assumption) hyz))
          clear hbd
          go_wp2
          go_roundw
          case rel => exact ⟨k + 1, by omega, by go_num, by rw [HST.out]; simp, HB7.out⟩
          case measure => simp [intOf]; omega
    · obtain rfl : k = l.length := by omega
      rw [List.take_length] at *
      go_wp2
      go_ret
      exact ⟨rfl, hby⟩

end Go.Proofs.YtgpmodbndngcoaaDoor
