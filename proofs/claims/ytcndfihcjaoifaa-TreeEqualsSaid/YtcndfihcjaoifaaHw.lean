/- Heavy and heavy: whether arguments are too large for a law. -/
import Derived.Test.YtcndfihcjaoifaaHv

namespace Go.Proofs.Ytcndfihcjaoifaa
open Go.RowKit

def HeavyP (l : List Nd) (w : World) (e : Ending) (w' : World) : Prop := ∃ hb : Bool, e = .returned (.bool hb) ∧ w = w' ∧ (hb = false → deepB 300 l = false ∧ cntL l ≤ 3000)

set_option maxHeartbeats 1000000 in
set_option maxRecDepth 100000 in
theorem heavyL_any (A : Option Addr) (c : Nat) (l : List Nd) (w : World) (h : NdSl w w.heap.size A l) :
    Calls Try.prog 31 #[.slice A l.length c, .int .i64 3000] w (HeavyP l w) := by
  have calD := deep_any 300 A c l w (by omega) h
  by_cases hd : deepB 300 l = true
  · have HN : Hid (HeavyP l w (.returned (.bool true)) w) := ⟨true, rfl, rfl, fun h => by simp at h⟩
    rw [hd] at calD
    clear h hd
    go_enter Try.func31, Try.ntmps31
    go_wp2_with (go_at_call 52; refine calD.mono ?_; rintro e w' ⟨rfl, rfl⟩)
    go_ret
    exact HN.out
  · have hd' : deepB 300 l = false := by simpa using hd
    rw [hd'] at calD
    have calN := nodes_any 300 A c l 3000 w (by omega) hd' (by omega) (by omega) h
    have calT := texts_any 300 A c l 20000 w (by omega) hd' h
    have HD := Lib.hid hd'
    clear h hd hd'
    go_enter Try.func31, Try.ntmps31
    go_wp2_with (go_at_call 52; refine calD.mono ?_; rintro e w' ⟨rfl, rfl⟩)
    refine calN.mono ?_
    rintro e w' ⟨r, rfl, rfl, hr0, hr1, hr2⟩
    have HR := Lib.hid hr2
    clear hr2 calN
    by_cases hle : r ≤ 3000
    · go_wp2_with fail
      refine calT.mono ?_
      rintro e w' ⟨r2, rfl, rfl⟩
      have HN : ∀ b, Hid (HeavyP l w (.returned (.bool b)) w) := fun b => ⟨b, rfl, rfl, fun _ => ⟨HD.out, by have := HR.out hle; omega⟩⟩
      clear calT
      go_wp2_with fail
      all_goals go_ret
      all_goals exact (HN _).out
    · have HN : Hid (HeavyP l w (.returned (.bool true)) w) := ⟨true, rfl, rfl, fun h => by simp at h⟩
      clear calT
      go_wp2_with fail
      go_ret
      exact HN.out

def HeavyN (n1 n2 : Nat) (x : Nd) (w : World) (e : Ending) (w' : World) : Prop := ∃ hb : Bool, e = .returned (.bool hb) ∧ Below w.heap.size w w' ∧ (hb = false → n1 ≤ 3000 ∧ n2 ≤ 3000 ∧ deepB 299 x.l = false ∧ x.cnt ≤ 3000)

set_option maxHeartbeats 1000000 in
set_option maxRecDepth 100000 in
theorem heavy_any (A1 A2 : Option Addr) (n1 c1 n2 c2 : Nat) (x : Nd) (w : World) (h : x.In w w.heap.size) :
    Calls Try.prog 9 #[.slice A1 n1 c1, .slice A2 n2 c2, x.val] w (HeavyN n1 n2 x w) := by
  have HH := Lib.hid h
  have HT : ∀ w', Below w.heap.size w w' → Hid (HeavyN n1 n2 x w (.returned (.bool true)) w') := fun w' hb => ⟨true, rfl, hb, fun h => by simp at h⟩
  clear h
  by_cases h1 : n1 ≤ 3000
  · by_cases h2 : n2 ≤ 3000
    · cases x with
      | mk op s n f t A c l =>
      have g1 : decide ((3000 : Int) < (n1 : Int)) = false := by simp; omega
      have g2 : decide ((3000 : Int) < (n2 : Int)) = false := by simp; omega
      unfold Nd.val Nd.arr
      go_enter Try.func9, Try.ntmps9
      go_wp2_with fail
      refine (heavyL_any _ _ [Nd.mk op s n f t A c l] _ ?sl).mono ?_
      case sl =>
        have := NdSl.one (w.alloc (.cells (Nd.mk op s n f t A c l).arr 24)) (.mk op s n f t A c l) 24 (HH.out.below ((Below.refl _ _).alloc (Nat.le_refl _) _) (by simp))
        simpa [Nd.arr] using this
      rintro e w' ⟨hb, rfl, rfl, hh⟩
      have HN : ∀ w', Below w.heap.size w w' → Hid (HeavyN n1 n2 (.mk op s n f t A c l) w (.returned (.bool hb)) w') := fun w' hb2 => ⟨hb, rfl, hb2, fun hf => by
        obtain ⟨g1, g2⟩ := hh hf
        refine ⟨h1, h2, deepB_part g1 _ (by simp), ?_⟩
        simpa [cntL] using g2⟩
      clear hh HH HT
      go_wp2_with fail
      go_ret
      exact (HN _ (((Below.refl _ _).alloc (Nat.le_refl _) _).alloc (by simp) _)).out
    · cases x with
      | mk op s n f t A c l =>
      unfold Nd.val Nd.arr
      go_enter Try.func9, Try.ntmps9
      go_wp2_with fail
      go_ret
      exact (HT _ ((Below.refl _ _).alloc (Nat.le_refl _) _)).out
  · cases x with
    | mk op s n f t A c l =>
    unfold Nd.val Nd.arr
    go_enter Try.func9, Try.ntmps9
    go_wp2_with fail
    go_ret
    exact (HT _ ((Below.refl _ _).alloc (Nat.le_refl _) _)).out

end Go.Proofs.Ytcndfihcjaoifaa
