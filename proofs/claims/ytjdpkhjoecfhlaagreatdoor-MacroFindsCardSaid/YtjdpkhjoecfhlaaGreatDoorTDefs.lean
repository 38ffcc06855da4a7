/- The law MacroDefines. -/
import Derived.Test.YtjdpkhjoecfhlaaGreatDoorMacH
import Derived.Test.YtjdpkhjoecfhlaaGreatDoorLexJ
namespace Go.Proofs.YtjdpkhjoecfhlaaGreatDoor
open Go.RowKit Go.Maps Go.Shelf

set_option maxHeartbeats 1000000 in
set_option maxRecDepth 100000 in
/-- two definitions that are the same -/
theorem eqDef_same (nm bd : ByteArray) (i : Int) (fn gn : Bool) (A1 A2 : Option Addr) (c1 c2 : Nat) (ps : List ByteArray) (w : World) (hl : ps.length ≤ 1000000) (h1 : Rd w w.heap.size A1 (ps.map Value.string)) (h2 : Rd w w.heap.size A2 (ps.map Value.string)) :
    Calls Tryz.prog 34 #[.agg #[.string nm, .int .i64 i, .slice A1 ps.length c1, .bool fn, .string bd, .bool gn], .agg #[.string nm, .int .i64 i, .slice A2 ps.length c2, .bool fn, .string bd, .bool gn]] w fun e w' => e = .returned (.bool true) ∧ Below w.heap.size w w' := by
  obtain ⟨W0, hW0⟩ : ∃ W0, W0 = (w.alloc (.cells #[.string nm, .int .i64 i, .slice A1 ps.length c1, .bool fn, .string bd, .bool gn] 74)).alloc (.cells #[.string nm, .int .i64 i, .slice A2 ps.length c2, .bool fn, .string bd, .bool gn] 75) := ⟨_, rfl⟩
  have F3 : Below w.heap.size w W0 := by rw [hW0]; exact ((Below.refl _ _).alloc (Nat.le_refl _) _).alloc (by simp) _
  have EQ := eqStr_any A1 A2 c1 c2 ps ps W0 hl hl ((h1.below F3).more F3.size) ((h2.below F3).more F3.size)
  rw [show decide (ps = ps) = true by simp] at EQ
  have HEQ := Lib.hid EQ
  have HF3 := Lib.hid F3
  obtain ⟨n, hn⟩ : ∃ n, n = ps.length := ⟨_, rfl⟩
  rw [← hn] at HEQ hW0 ⊢
  have HW0 := Lib.hid hW0
  clear EQ F3 hW0 h1 h2 hl hn
  go_enter Tryz.func34, Tryz.ntmps34
  go_wp2_with fail
  rw [← HW0.out]
  refine HEQ.out.mono ?_
  rintro e w2 ⟨rfl, hb2⟩
  have G1 := (Blk.alloc (Blk.new w 74 #[.string nm, .int .i64 i, .slice A1 n c1, .bool fn, .string bd, .bool gn]) (.cells #[.string nm, .int .i64 i, .slice A2 n c2, .bool fn, .string bd, .bool gn] 75))
  have G2 := Blk.new (w.alloc (.cells #[.string nm, .int .i64 i, .slice A1 n c1, .bool fn, .string bd, .bool gn] 74)) 75 #[.string nm, .int .i64 i, .slice A2 n c2, .bool fn, .string bd, .bool gn]
  rw [show (w.alloc (.cells #[.string nm, .int .i64 i, .slice A1 n c1, .bool fn, .string bd, .bool gn] 74)).heap.size = w.heap.size + 1 by simp] at G2
  rw [← HW0.out] at G1 G2
  have G3 := G1.below hb2 G1.lt
  have G4 := G2.below hb2 G2.lt
  have BW := Lib.hid (HF3.out.trans (hb2.mono HF3.out.size))
  have x3 := G3.cell 3
  have x4 := G3.cell 4
  have x5 := G3.cell 5
  have y3 := G4.cell 3
  have y4 := G4.cell 4
  have y5 := G4.cell 5
  simp at x3 x4 x5 y3 y4 y5
  clear G1 G2 G3 G4 hb2 HEQ HW0 HF3
  go_wp2_with fail
  go_ret
  exact ⟨rfl, BW.out⟩

def awakeT : ByteArray := ⟨#[35, 100, 101, 102, 105, 110, 101, 32, 70, 40, 97, 41, 32, 97, 43, 49]⟩
theorem awake_dfn : dfnB 7 awakeT = some ⟨⟨#[70]⟩, [⟨#[97]⟩], true, [⟨#[97]⟩, ⟨#[43]⟩, ⟨#[49]⟩], false⟩ := by kernel_rfl
theorem awake_body : bodyB ⟨⟨#[70]⟩, [⟨#[97]⟩], true, [⟨#[97]⟩, ⟨#[43]⟩, ⟨#[49]⟩], false⟩ = ⟨#[97, 32, 43, 32, 49]⟩ := by kernel_rfl

set_option maxHeartbeats 1000000 in
set_option maxRecDepth 100000 in
theorem awake_any (n0 : Nat) (w : World) (hG : LexG n0 w) :
    Calls Tryz.prog 31 #[] w fun e w' => e = .returned (.bool true) ∧ Below w.heap.size w w' := by
  have HD := Define_any n0 7 0 ⟨#[]⟩ awakeT w hG (by decide)
  rw [awake_dfn] at HD
  have HHD := Lib.hid HD
  clear HD
  go_enter Tryz.func31, Tryz.ntmps31
  go_wp2_with fail
  refine HHD.out.mono ?_
  rintro e w2 ⟨hb2, v, rfl, hO⟩
  obtain ⟨A5, ca5, rfl⟩ := own_len hO
  obtain ⟨g, cap, e, hgb, hgl⟩ := hO.form (by simp)
  injection e with e1 e2 e3
  subst e1
  have c0 : w2.cell? ⟨g, 0, none⟩ = some (.string ⟨#[97]⟩) := hO.cellAt 0 (by simp)
  have HB2 := Lib.hid hb2
  clear hO hb2 e2 e3 HHD hG
  simp only [awake_body, List.length_cons, List.length_nil]
  go_wp2_with fail
  go_ret
  exact ⟨rfl, HB2.out.alloc HB2.out.size _⟩

theorem defP_len (l : List Tk) (p : List ByteArray × Bool × List Tk) (h : defP l = some p) : p.1.length ≤ l.length + 1 := by
  cases l with
  | nil => simp [defP] at h; rw [← h]; simp
  | cons t r =>
    by_cases hT : defT (t :: r) = true
    · rw [defP_yes t r hT] at h
      cases e : parL r with
      | none => rw [e] at h; cases h
      | some q =>
        rw [e] at h
        injection h with h
        rw [← h]
        show q.1.length ≤ _
        cases r with
        | nil => simp [parL] at e
        | cons t2 r2 =>
          simp only [parL] at e
          split at e
          · injection e with e
            rw [← e]
            simp
          · have := parG_len _ [] _ q (Nat.le_refl _) e
            simp only [List.length_nil, List.length_cons] at this ⊢
            omega
    · rw [defP_no _ (by simpa using hT)] at h
      injection h with h
      rw [← h]
      simp
theorem dfn_len (k : Int) (x : ByteArray) (d : Dfn) (hx : x.size ≤ 20001) (h : dfnB k x = some d) : d.ps.length ≤ 1000000 := by
  have key : ∀ gone, dfnW gone (wordsL x) = some d → d.ps.length ≤ 1000000 := fun gone h => by
    have hl := (words_size x hx).1
    match hw : wordsL x with
    | [] => rw [hw] at h; cases h
    | [_] => rw [hw] at h; cases h
    | t0 :: t1 :: r =>
      rw [hw] at h hl
      simp only [List.length_cons] at hl
      simp only [dfnW] at h
      split at h
      · split at h
        · injection h with h
          rw [← h]
          simp
        · cases e : defP r with
          | none => rw [e] at h; cases h
          | some p =>
            rw [e] at h
            injection h with h
            have := defP_len r p e
            rw [← h]
            show p.1.length ≤ _
            omega
      · cases h
  unfold dfnB at h
  split at h
  · exact key _ h
  · split at h
    · exact key _ h
    · cases h

end Go.Proofs.YtjdpkhjoecfhlaaGreatDoor
