/- heavy: whether a text or a list of edits is too large for a statement. -/
import Derived.Test.YtgpmodbndngcoaaDoorApply
import Derived.RegionTactic
namespace Go.Proofs.YtgpmodbndngcoaaDoor
open Go.RowKit Go.Maps

/-- the bytes of all texts of edits -/
def textsF : List Ed → Nat
  | [] => 0
  | x :: l => x.s.size + textsF l

theorem textsF_take (l : List Ed) (k : Nat) (h : k < l.length) : textsF (l.take (k + 1)) = textsF (l.take k) + l[k].s.size := by
  induction l generalizing k with
  | nil => simp at h
  | cons x l ih =>
    cases k with
    | zero => simp [textsF]
    | succ k => simp only [List.take_succ_cons, textsF, List.getElem_cons_succ, ih k (by simpa using h)]; omega

theorem textsF_mem (l : List Ed) : ∀ x ∈ l, x.s.size ≤ textsF l := by
  induction l with
  | nil => intro x hx; simp at hx
  | cons y l ih =>
    intro x hx
    simp only [textsF]
    rcases List.mem_cons.1 hx with rfl | hx
    · omega
    · have := ih x hx; omega

def heavyF (s : ByteArray) (l : List Ed) : Bool := decide (6000 < s.size + textsF l) || (decide (60 < l.length) && decide (l.length ≤ 10000))

theorem textsF_le (l : List Ed) (k : Nat) : textsF (l.take k) ≤ textsF l := by
  induction l generalizing k with
  | nil => simp [textsF]
  | cons x l ih =>
    cases k with
    | zero => simp [textsF]
    | succ k => simp only [List.take_succ_cons, textsF]; have := ih k; omega

set_option maxHeartbeats 1000000 in
set_option maxRecDepth 100000 in
theorem heavy_any (A : Option Addr) (c : Nat) (s : ByteArray) (l : List Ed) (w : World) (hs : s.size ≤ 140737488355328) (hl : l.length ≤ 140737488355328) (hx : ∀ x ∈ l, x.s.size ≤ 140737488355328) (h : ESl w w.heap.size A l) :
    Calls Tryd.prog 18 #[.string s, .slice A l.length c] w fun e w' => e = .returned (.bool (heavyF s l)) ∧ Below w.heap.size w w' := by
  have HH := Lib.hid h
  have HX := Lib.hid hx
  clear h hx
  go_enter Tryd.func18, Tryd.ntmps18
  go_wp2
  go_loopw [5, 6] (fun n i wr => ∃ k : Nat, k ≤ l.length ∧ i = .int .i64 k ∧ n = .int .i64 ((s.size + textsF (l.take k) : Nat) : Int) ∧ (k = 0 ∨ s.size + textsF (l.take (k - 1)) ≤ 6000) ∧ Below w.heap.size w wr) (fun _ i _ => l.length - (intOf i).toNat)
  case atStart => exact ⟨0, Nat.zero_le _, rfl, by simp [textsF], .inl rfl, Below.refl _ _⟩
  case round =>
    obtain ⟨k, hk, rfl, rfl, hp, hb⟩ := hrel
    have hbig : s.size + textsF (l.take k) ≤ 140737488355328 + 140737488355328 + 6000 := by
      rcases hp with rfl | hp
      · simp [textsF]; omega
      · by_cases h0 : k = 0
        · subst h0; simp [textsF]; omega
        · have h1 : k - 1 < l.length := by omega
          have ht := textsF_take l (k - 1) h1
          rw [show k - 1 + 1 = k by omega] at ht
          have := HX.out _ (List.getElem_mem h1)
          omega
    have HP := Lib.hid hp
    clear hp
    by_cases hlt : k < l.length
    · obtain ⟨b, off, rfl, hB, c0, c1, c2⟩ := (HH.out.below hb).at_ k hlt
      have ht := textsF_take l k hlt
      have hxs := HX.out _ (List.getElem_mem hlt)
      generalize l[k].s = x at *
      have HT := Lib.hid ht
      clear ht
      generalize hn : s.size + textsF (l.take k) = n at *
      have HN := Lib.hid hn
      clear hn
      by_cases q : n ≤ 6000
      · go_wp2
        go_roundw
        case rel =>
          refine ⟨k + 1, by omega, by go_num, ?_, .inr ?_, hb⟩
          · have h1 := HT.out
            have h2 := HN.out
            rw [show s.size + textsF (l.take (k + 1)) = n + x.size by omega]
            go_num
          · have h2 := HN.out
            rw [show k + 1 - 1 = k by omega]; omega
        case measure => simp [intOf]; omega
      · have q2 : 6000 < (n : Int) := by omega
        have hv : heavyF s l = true := by
          have := textsF_le l k
          have := HN.out
          unfold heavyF
          rw [decide_eq_true (show 6000 < s.size + textsF l by omega)]; rfl
        have HV := Lib.hid hv
        clear hv
        go_wp2
        go_ret
        exact ⟨ret_bool (by rw [HV.out]), hb⟩
    · obtain rfl : k = l.length := by omega
      rw [List.take_length] at *
      generalize hn : s.size + textsF l = n at *
      have hv : heavyF s l = (decide (6000 < n) || (decide (60 < l.length) && decide (l.length ≤ 10000))) := by unfold heavyF; rw [hn]
      have HV := Lib.hid hv
      clear hv
      by_cases q : n ≤ 6000
      · have q2 : ¬ (6000 : Int) < n := by omega
        have q4 : decide ((6000 : Int) < n) = false := by simp; omega
        have r4 : decide (6000 < n) = false := by simp; omega
        by_cases q1 : 60 < l.length
        · have p1 : (60 : Int) < l.length := by omega
          have p2 : decide ((60 : Int) < l.length) = true := by simp; omega
          by_cases q3 : l.length ≤ 10000
          · have p3 : (l.length : Int) ≤ 10000 := by omega
            go_wp2
            go_ret
            exact ⟨ret_bool (by rw [HV.out]; simp [r4, q1, q3]), hb⟩
          · have p3 : ¬ (l.length : Int) ≤ 10000 := by omega
            go_wp2
            go_ret
            exact ⟨ret_bool (by rw [HV.out]; simp [r4, q1, q3]), hb⟩
        · have p1 : ¬ (60 : Int) < l.length := by omega
          have p2 : decide ((60 : Int) < l.length) = false := by simp; omega
          go_wp2
          go_ret
          exact ⟨ret_bool (by rw [HV.out]; simp [r4, q1]), hb⟩
      · have q2 : 6000 < (n : Int) := by omega
        have r4 : decide (6000 < n) = true := by simp; omega
        have q4 : decide ((6000 : Int) < n) = true := by simp; omega
        go_wp2
        go_ret
        exact ⟨ret_bool (by rw [HV.out]; simp [r4]), hb⟩

end Go.Proofs.YtgpmodbndngcoaaDoor
