/- LexTwo: the law's own open. -/
import Derived.Test.YtihnafocjognaaaDoorLexOw
namespace Go.Proofs.YtihnafocjognaaaDoor
open Go.RowKit Go.Maps Go.Shelf

theorem last_of (X : List Tk) (e : Tk) (l : List Tk) (h : l = X ++ [e]) (k : Nat) (hk : l.length = k + 1) (h2 : k < l.length) : l[k] = e ∧ k = X.length := by
  subst h
  rw [List.length_append] at hk
  have hx : k = X.length := by simpa using hk.symm
  subst hx
  exact ⟨by rw [List.getElem_append_right (Nat.le_refl _)]; simp, rfl⟩

theorem tok_blen : ∀ (n : Nat) (f : Bool) (a : Nat) (l : List UInt8), l.length ≤ n → ∀ t ∈ tokR f a l, t.b.data.toList.length ≤ l.length
  | n, f, a, l, hn, t, ht => by
    rw [tokR_step] at ht
    by_cases g : l.length ≤ (skipF f l).1
    · rw [if_pos g] at ht
      obtain rfl : t = endTk f a l := by simpa using ht
      have ex : (endTk f a l).b.data.toList = l.take (skipF f l).1 := rfl
      rw [ex, List.length_take]
      omega
    · rw [if_neg g, List.mem_cons] at ht
      rcases ht with rfl | ht
      · have ex : (theTk f a l).b.data.toList = l.take (skipF f l).1 := rfl
        rw [ex, List.length_take]
        omega
      · have hl := left_less f l g
        cases n with
        | zero => omega
        | succ n => exact Nat.le_trans (tok_blen n _ _ _ (by omega) t ht) (Nat.le_of_lt hl)

theorem open_facts (A : List UInt8) (n : Nat) (L M : List Tk) (hL : L = tokR true 0 (A ++ [42, 47])) (hM : M = tokR true 0 A) (kL kM : Nat) (eL : L.length = kL + 1) (eM : M.length = kM + 1) (h : openE n true A = true) :
    2 ≤ (L[kL]'(by omega)).b.size ∧ (M[kM]'(by omega)).b.size + 2 = (L[kL]'(by omega)).b.size ∧ L.length = M.length ∧ lcF (L[kL]'(by omega)).b.data.toList = false := by
  obtain ⟨X, eb, p, t1, t2, t3, _⟩ := open_toks n true 0 A h
  rw [← hM] at t1
  rw [← hL] at t2
  obtain ⟨a1, a2⟩ := last_of X _ L t2 kL eL (by omega)
  obtain ⟨b1, b2⟩ := last_of X _ M t1 kM eM (by omega)
  rw [a1, b1]
  refine ⟨?_, ?_, by omega, t3⟩
  · show 2 ≤ (eb ++ [42, 47]).toArray.size
    simp
  · show eb.toArray.size + 2 = (eb ++ [42, 47]).toArray.size
    simp

/-- what the law's open answers: false only where no comment is open -/
def OpenP (V : Bool) (w : World) (e : Ending) (w' : World) : Prop := ∃ o : Bool, e = .returned (.bool o) ∧ (o = false → V = false) ∧ Below w.heap.size w w'
theorem OpenP.mk {V : Bool} {w w' : World} {e : Ending} (o : Bool) (h1 : e = .returned (.bool o)) (h2 : o = false → V = false) (h3 : Below w.heap.size w w') : OpenP V w e w' := ⟨o, h1, h2, h3⟩

set_option maxHeartbeats 4000000 in
set_option maxRecDepth 100000 in
theorem open_any (a : ByteArray) (w : World) (ha : a.size ≤ 200000) :
    Calls Tryd.prog 19 #[.string a] w fun e w' => OpenP (openE (a.size + 1) true a.data.toList) w e w' := by
  have hbs : (a ++ ⟨#[42, 47]⟩ : ByteArray).size = a.size + 2 := by rw [ByteArray.size_append]; rfl
  have hbd : (a ++ ⟨#[42, 47]⟩ : ByteArray).data.toList = a.data.toList ++ [42, 47] := by rw [ByteArray.data_append, Array.toList_append]
  have A1 := all_any (a ++ ⟨#[42, 47]⟩) w (by omega)
  have A2 := fun W => all_any a W (by omega)
  rw [hbd] at A1
  obtain ⟨L, hL⟩ : ∃ L, L = tokR true 0 (a.data.toList ++ [42, 47]) := ⟨_, rfl⟩
  obtain ⟨M, hM⟩ : ∃ M, M = tokR true 0 a.data.toList := ⟨_, rfl⟩
  rw [← hL] at A1
  rw [← hM] at A2
  have pL : 0 < L.length := by rw [hL]; exact List.length_pos_iff.2 (tokR_ne _ _ _)
  have pM : 0 < M.length := by rw [hM]; exact List.length_pos_iff.2 (tokR_ne _ _ _)
  have lL : L.length ≤ a.size + 3 := by have := tokR_len true 0 (a.data.toList ++ [42, 47]); rw [← hL, List.length_append] at this; simp at this; omega
  have lM : M.length ≤ a.size + 1 := by have := tokR_len true 0 a.data.toList; rw [← hM] at this; simp at this; omega
  obtain ⟨kL, eL⟩ : ∃ k, L.length = k + 1 := ⟨L.length - 1, by omega⟩
  obtain ⟨kM, eM⟩ : ∃ k, M.length = k + 1 := ⟨M.length - 1, by omega⟩
  have hf := open_facts a.data.toList (a.size + 1) L M hL hM kL kM eL eM
  obtain ⟨V, hV⟩ : ∃ V, V = openE (a.size + 1) true a.data.toList := ⟨_, rfl⟩
  rw [← hV] at hf ⊢
  have haI : (a.size : Int) ≤ 200000 := by omega
  have kLI : (L.length : Int) = kL + 1 := by omega
  have kMI : (M.length : Int) = kM + 1 := by omega
  have kLl : kL < L.length := by omega
  have kMl : kM < M.length := by omega
  have kL0 : (0 : Int) ≤ kL := by omega
  have kM0 : (0 : Int) ≤ kM := by omega
  have kL2 : (kL : Int) ≤ 300000 := by omega
  have kM2 : (kM : Int) ≤ 300000 := by omega
  have hBL : ∀ (k : Nat) (h : k < L.length), (L[k].b.size : Int) ≤ 300000 := fun k h => by
    have := tok_blen (a.data.toList ++ [42, 47]).length true 0 (a.data.toList ++ [42, 47]) (Nat.le_refl _) L[k] (by rw [← hL]; exact List.getElem_mem h)
    simp at this
    omega
  have hBM : ∀ (k : Nat) (h : k < M.length), (M[k].b.size : Int) ≤ 300000 := fun k h => by
    have := tok_blen a.data.toList.length true 0 a.data.toList (Nat.le_refl _) M[k] (by rw [← hM]; exact List.getElem_mem h)
    simp at this
    omega
  have HBL := Lib.hid hBL
  have HBM := Lib.hid hBM
  have HA1 := Lib.hid A1
  have HA2 := Lib.hid A2
  have HF := Lib.hid hf
  have EL := Lib.hid eL
  have EM := Lib.hid eM
  clear A1 A2 hf hL hM hV hbs hbd ha lL lM pL pM hBL hBM
  go_enter Tryd.func19, Tryd.ntmps19
  go_wp2_with fail
  refine HA1.out.mono ?_
  rintro e w1 ⟨v, rfl, hO1, hb1⟩
  obtain ⟨g1, cap1, rfl, _, _⟩ := hO1.form (by omega)
  have hR1 : TRd w1 w1.heap.size (some ⟨g1, 0, none⟩) L := Rd.of_own hO1
  have HR1 := Lib.hid hR1
  have HB1 := Lib.hid hb1
  clear hO1 hb1 hR1 HA1
  go_wp2_with fail
  refine (HA2.out _).mono ?_
  rintro e w2 ⟨v, rfl, hO2, hb2⟩
  obtain ⟨g2, cap2, rfl, _, _⟩ := hO2.form (by omega)
  have hR2 : TRd w2 w2.heap.size (some ⟨g2, 0, none⟩) M := Rd.of_own hO2
  have hR1 := (HR1.out.below hb2).more hb2.size
  have HB2 := Lib.hid (HB1.out.trans (hb2.mono HB1.out.size))
  obtain ⟨b1, o1, eA, _, _, c1, _, _⟩ := TRd.at_ hR1 kL kLl
  cases eA
  obtain ⟨b2, o2, eA, _, _, d1, _, _⟩ := hR2.at_ kM kMl
  cases eA
  obtain ⟨lb, hlb⟩ : ∃ lb, lb = (L[kL]'kLl).b := ⟨_, rfl⟩
  obtain ⟨mb, hmb⟩ : ∃ mb, mb = (M[kM]'kMl).b := ⟨_, rfl⟩
  rw [← hlb] at c1
  rw [← hmb] at d1
  have hf := HF.out
  rw [← hlb, ← hmb] at hf
  clear HF
  have HF := Lib.hid hf
  have hbnd : (lb.size : Int) ≤ 300000 ∧ (mb.size : Int) ≤ 300000 := by
    rw [hlb, hmb]
    exact ⟨HBL.out kL kLl, HBM.out kM kMl⟩
  obtain ⟨hb1I, hb2I⟩ := hbnd
  have en : ∀ args w, (callFunc 26 args).run Tryd.prog w = .ok (.enter 26 args) w := enters_of Tryd.func26 (by kernel_rfl) rfl
  have LC := fun W => lineComment_any lb W (by omega)
  simp only [Nat.zero_add] at c1 d1
  clear hO2 hb2 hR2 hR1 HR1 HB1 HA2 hf hlb hmb HBL HBM
  go_wp2_with fail
  by_cases g1 : 2 ≤ lb.size
  · have g1I : (2 : Int) ≤ lb.size := by omega
    have g1B : decide ((2 : Int) ≤ lb.size) = true := decide_eq_true g1I
    by_cases g2 : mb.size + 2 = lb.size
    · have g2I : (mb.size : Int) + 2 = lb.size := by omega
      by_cases g3 : L.length = M.length
      · have g3K : kM = kL := by omega
        subst g3K
        cases g4 : lcF lb.data.toList
        · rw [g4] at LC
          have HLC := Lib.hid LC
          clear LC g1 g2 g3 g4 eL eM
          go_quiet (first | (go_at_call 26; exact Calls.quiet_of_same (HLC.out _)))
          go_wp2
          go_ret
          exact OpenP.mk true rfl (fun h => by cases h) ⟨HB2.out.os, HB2.out.tape, HB2.out.output, HB2.out.size, HB2.out.block⟩
        · rw [g4] at LC
          have HLC := Lib.hid LC
          have HN := Lib.hid (show ¬ lcF lb.data.toList = false by rw [g4]; simp)
          clear LC g1 g2 g3 g4 eL eM
          go_quiet (first | (go_at_call 26; exact Calls.quiet_of_same (HLC.out _)))
          go_wp2
          go_ret
          exact OpenP.mk false rfl (fun _ => by cases hv : V with | false => rfl | true => exact absurd (HF.out hv).2.2.2 HN.out) ⟨HB2.out.os, HB2.out.tape, HB2.out.output, HB2.out.size, HB2.out.block⟩
      · have g3I : ¬ (kL : Int) = kM := by omega
        have g3B : ((kL : Int) == (kM : Int)) = false := by simpa using g3I
        have g3C : ((kL : Int) + 1 == (kM : Int) + 1) = false := by simp; omega
        have HLC := Lib.hid LC
        have HN := Lib.hid g3
        clear LC g1 g2 g3 eL eM
        go_quiet (first | (go_at_call 26; exact Calls.quiet_of_same (HLC.out _)))
        go_wp2
        go_ret
        exact OpenP.mk false rfl (fun _ => by cases hv : V with | false => rfl | true => exact absurd (HF.out hv).2.2.1 HN.out) ⟨HB2.out.os, HB2.out.tape, HB2.out.output, HB2.out.size, HB2.out.block⟩
    · have g2I : ¬ (mb.size : Int) + 2 = lb.size := by omega
      have g2B : ((mb.size : Int) + 2 == (lb.size : Int)) = false := by simpa using g2I
      have HLC := Lib.hid LC
      have HN := Lib.hid g2
      clear LC g1 g2 eL eM
      go_quiet (first | (go_at_call 26; exact Calls.quiet_of_same (HLC.out _)))
      go_wp2
      go_ret
      exact OpenP.mk false rfl (fun _ => by cases hv : V with | false => rfl | true => exact absurd (HF.out hv).2.1 HN.out) ⟨HB2.out.os, HB2.out.tape, HB2.out.output, HB2.out.size, HB2.out.block⟩
  · have g1I : ¬ (2 : Int) ≤ lb.size := by omega
    have g1B : decide ((2 : Int) ≤ lb.size) = false := decide_eq_false g1I
    have HLC := Lib.hid LC
    have HN := Lib.hid g1
    clear LC g1 eL eM
    go_quiet (first | (go_at_call 26; exact Calls.quiet_of_same (HLC.out _)))
    go_wp2
    go_ret
    exact OpenP.mk false rfl (fun _ => by cases hv : V with | false => rfl | true => exact absurd (HF.out hv).1 HN.out) ⟨HB2.out.os, HB2.out.tape, HB2.out.output, HB2.out.size, HB2.out.block⟩

end Go.Proofs.YtihnafocjognaaaDoor
