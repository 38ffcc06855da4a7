/- Cond: the program's Kind. -/
import Derived.Test.YtjdpkhjoecfhlaaGreatDoorDirW
namespace Go.Proofs.YtjdpkhjoecfhlaaGreatDoor
open Go.RowKit Go.Maps Go.Shelf

def otherB : ByteArray := ⟨#[111, 116, 104, 101, 114]⟩
def kindsL : List (List UInt8) := [[105, 102], [105, 102, 100, 101, 102], [105, 102, 110, 100, 101, 102], [101, 108, 105, 102], [101, 108, 115, 101], [101, 110, 100, 105, 102], [100, 101, 102, 105, 110, 101], [117, 110, 100, 101, 102], [105, 110, 99, 108, 117, 100, 101]]
def kindX (x : ByteArray) : ByteArray := if kindsL.contains x.data.toList = true then x else otherB
/-- what a directive's first word makes of it -/
def kindW : List Tk → ByteArray
  | [] => otherB
  | t :: _ => kindX t.x
/-- the kind of a token -/
def kindB (k : Int) (x : ByteArray) : ByteArray := if k = 7 then (if x.data.toList.head? = some 35 then kindW (wordsL x) else otherB) else ⟨#[]⟩

set_option maxHeartbeats 8000000 in
set_option maxRecDepth 100000 in
theorem kind_any (n0 : Nat) (k a : Int) (b x : ByteArray) (w : World) (hG : LexG n0 w) (hx : x.size ≤ 20001) :
    Calls Tryz.prog 12 #[.agg #[.int .i64 k, .string b, .string x, .int .i64 a]] w fun e w' => e = .returned (.string (kindB k x)) ∧ Below w.heap.size w w' := by
  by_cases hk : k = 7
  · have hb1 : Below w.heap.size w (w.alloc (.cells #[.int .i64 k, .string b, .string x, .int .i64 a] 29)) := (Below.refl _ _).alloc (Nat.le_refl _) _
    unfold kindB
    rw [if_pos hk]
    subst hk
    by_cases hd : x.data.toList.head? = some 35
    · rw [if_pos hd]
      have WO := words_ok n0 a b x _ (hG.below hb1) hx hd
      have HB1 := Lib.hid hb1
      generalize wordsL x = D at *
      clear hb1 hG hx hd
      cases D with
      | nil =>
        have HWO := Lib.hid WO
        clear WO
        go_enter Tryz.func12, Tryz.ntmps12
        go_wp2_with fail
        refine HWO.out.mono ?_
        rintro e w2 ⟨g, cap, rfl, hc1, hc2, hg, hT, hb2⟩
        have HB2 := Lib.hid (HB1.out.trans (hb2.mono HB1.out.size))
        clear hb2 HB1 HWO hc1 hc2 hg hT
        go_wp2
        go_ret
        exact ⟨rfl, HB2.out⟩
      | cons t D =>
        obtain ⟨tk, tb, X, ta⟩ := t
        obtain ⟨n, hn⟩ : ∃ n, n = (⟨tk, tb, X, ta⟩ :: D : List Tk).length := ⟨_, rfl⟩
        have hn1 : 1 ≤ n := by rw [hn, List.length_cons]; omega
        rw [← hn] at WO
        show Calls _ _ _ _ fun e w' => e = .returned (.string (kindX X)) ∧ Below w.heap.size w w'
        have HWO : Hid (Calls Tryz.prog 10 #[.agg #[.int .i64 7, .string b, .string x, .int .i64 a]] (w.alloc (.cells #[.int .i64 7, .string b, .string x, .int .i64 a] 29)) fun e w' => ∃ g cap, e = .returned (.tuple #[.slice (some ⟨g, 0, none⟩) n cap, .int .i64 0]) ∧ w'.cell? ⟨g, 2, none⟩ = some (.string X) ∧ Below (w.alloc (.cells #[.int .i64 7, .string b, .string x, .int .i64 a] 29)).heap.size (w.alloc (.cells #[.int .i64 7, .string b, .string x, .int .i64 a] 29)) w') := by
          refine WO.mono ?_
          rintro e w2 ⟨g, cap, rfl, hc1, hc2, hg, hT, hb2⟩
          obtain ⟨b0, off, e0, hlt0, _, _, c2, _⟩ := hT.at_ 0 (by simp)
          simp only [Option.some.injEq, Addr.mk.injEq, and_true] at e0
          obtain ⟨rfl, rfl⟩ := e0
          exact ⟨g, cap, rfl, by simpa using c2, hb2⟩
        have q0 : (0 : Int) < (n : Int) := by omega
        have q1 : ¬ (n : Int) = 0 := by omega
        have q2 : ((n : Int) == 0) = false := by simpa using q1
        clear WO hn hn1
        by_cases hX : kindsL.contains X.data.toList = true
        · unfold kindX
          rw [if_pos hX]
          have hm : X.data.toList ∈ kindsL := by simpa using hX
          have hX' : X = ⟨X.data.toList.toArray⟩ := by simp
          clear hX
          simp only [kindsL, List.mem_cons, List.not_mem_nil, or_false] at hm
          rcases hm with h | h | h | h | h | h | h | h | h
          all_goals
            rw [h] at hX'
            subst hX'
            clear h
            go_enter Tryz.func12, Tryz.ntmps12
            go_wp2_with fail
            refine HWO.out.mono ?_
            rintro e w2 ⟨g, cap, rfl, c2, hb2⟩
            have HB2 := Lib.hid (HB1.out.trans (hb2.mono HB1.out.size))
            clear hb2 HB1 HWO
            go_wp2
            go_ret
            exact ⟨rfl, HB2.out⟩
        · unfold kindX
          rw [if_neg hX]
          have hm : X.data.toList ∉ kindsL := by simpa using hX
          clear hX
          simp only [kindsL, List.mem_cons, List.not_mem_nil, or_false, not_or] at hm
          obtain ⟨h1, h2, h3, h4, h5, h6, h7, h8, h9⟩ := hm
          rw [← Lib.toList_data] at h1 h2 h3 h4 h5 h6 h7 h8 h9
          replace h1 := beq_eq_false_iff_ne.2 h1
          replace h2 := beq_eq_false_iff_ne.2 h2
          replace h3 := beq_eq_false_iff_ne.2 h3
          replace h4 := beq_eq_false_iff_ne.2 h4
          replace h5 := beq_eq_false_iff_ne.2 h5
          replace h6 := beq_eq_false_iff_ne.2 h6
          replace h7 := beq_eq_false_iff_ne.2 h7
          replace h8 := beq_eq_false_iff_ne.2 h8
          replace h9 := beq_eq_false_iff_ne.2 h9
          go_enter Tryz.func12, Tryz.ntmps12
          go_wp2_with fail
          refine HWO.out.mono ?_
          rintro e w2 ⟨g, cap, rfl, c2, hb2⟩
          have HB2 := Lib.hid (HB1.out.trans (hb2.mono HB1.out.size))
          clear hb2 HB1 HWO
          go_wp2
          go_ret
          exact ⟨rfl, HB2.out⟩
    · rw [if_neg hd]
      have WO := fun W => words_bad 7 a b x W (fun g => hd g.2)
      have HWO := Lib.hid WO
      have HB1 := Lib.hid hb1
      clear WO hb1 hG hx hd
      go_enter Tryz.func12, Tryz.ntmps12
      go_wp2_with fail
      refine (HWO.out _).mono ?_
      rintro e w2 ⟨rfl, hb2⟩
      have HB2 := Lib.hid (HB1.out.trans (hb2.mono HB1.out.size))
      clear hb2 HB1 HWO
      go_wp2
      go_ret
      exact ⟨rfl, HB2.out⟩
  · unfold kindB
    rw [if_neg hk]
    clear hG hx
    go_enter Tryz.func12, Tryz.ntmps12
    go_wp2
    go_ret
    exact ⟨rfl, (Below.refl _ _).alloc (Nat.le_refl _) _⟩

end Go.Proofs.YtjdpkhjoecfhlaaGreatDoor
