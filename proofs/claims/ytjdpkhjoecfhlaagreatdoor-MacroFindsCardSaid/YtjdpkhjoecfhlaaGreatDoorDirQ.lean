/- Cond: the document's Kind. -/
import Derived.Test.YtjdpkhjoecfhlaaGreatDoorDirV
import Derived.Test.YtjdpkhjoecfhlaaGreatDoorDirK
import Derived.Test.YtjdpkhjoecfhlaaGreatDoorLexI
namespace Go.Proofs.YtjdpkhjoecfhlaaGreatDoor
open Go.RowKit Go.Maps Go.Shelf

set_option maxHeartbeats 8000000 in
set_option maxRecDepth 100000 in
theorem refWords_bad (k a : Int) (b x : ByteArray) (w : World) (h : ¬ (k = 7 ∧ x.data.toList.head? = some 35)) :
    Calls Tryz.prog 11 #[.agg #[.int .i64 k, .string b, .string x, .int .i64 a]] w fun e w' => e = .returned (.tuple #[.slice none 0 0, .int .i64 3]) ∧ Below w.heap.size w w' := by
  by_cases hk : k = 7
  · have hd : ¬ x.data.toList.head? = some 35 := fun g => h ⟨hk, g⟩
    subst hk
    clear h
    by_cases hx0 : 0 < x.size
    · have hx00 : ¬ x[0] = 35 := fun g => by
        have := Lib.data_getElem? x 0 hx0
        rw [← List.head?_eq_getElem?, g] at this
        exact hd this
      have hx01 : ¬ ((x[0].toNat : Nat) : Int) = 35 := fun g => hx00 (UInt8.toNat_inj.1 (by show x[0].toNat = 35; omega))
      have q0 : (0 : Int) < (x.size : Int) := by omega
      have q2 : x.toList.isEmpty = false := by
        rw [Lib.toList_data]
        cases e : x.data.toList with
        | nil =>
          have : x.data.toList.length = x.size := by simp
          rw [e] at this
          simp at this
          omega
        | cons c m => rfl
      clear hd hx00
      go_enter Tryz.func11, Tryz.ntmps11
      go_wp2
      go_ret2
      exact ⟨rfl, (Below.refl _ _).alloc (Nat.le_refl _) _⟩
    · have hxe : x = ⟨#[]⟩ := by
        apply ByteArray.ext
        apply Array.toList_inj.1
        have : x.data.toList.length = x.size := by simp
        rw [show x.size = 0 by omega] at this
        rw [List.eq_nil_of_length_eq_zero this]
      subst hxe
      clear hx0 hd
      go_enter Tryz.func11, Tryz.ntmps11
      go_wp2
      go_ret2
      exact ⟨rfl, (Below.refl _ _).alloc (Nat.le_refl _) _⟩
  · clear h
    go_enter Tryz.func11, Tryz.ntmps11
    go_wp2
    go_ret2
    exact ⟨rfl, (Below.refl _ _).alloc (Nat.le_refl _) _⟩

def kindsBs : List ByteArray := [⟨#[105, 102]⟩, ⟨#[105, 102, 100, 101, 102]⟩, ⟨#[105, 102, 110, 100, 101, 102]⟩, ⟨#[101, 108, 105, 102]⟩, ⟨#[101, 108, 115, 101]⟩, ⟨#[101, 110, 100, 105, 102]⟩, ⟨#[100, 101, 102, 105, 110, 101]⟩, ⟨#[117, 110, 100, 101, 102]⟩, ⟨#[105, 110, 99, 108, 117, 100, 101]⟩]
def kindsV : Array Value := #[.string ⟨#[105, 102]⟩, .string ⟨#[105, 102, 100, 101, 102]⟩, .string ⟨#[105, 102, 110, 100, 101, 102]⟩, .string ⟨#[101, 108, 105, 102]⟩, .string ⟨#[101, 108, 115, 101]⟩, .string ⟨#[101, 110, 100, 105, 102]⟩, .string ⟨#[100, 101, 102, 105, 110, 101]⟩, .string ⟨#[117, 110, 100, 101, 102]⟩, .string ⟨#[105, 110, 99, 108, 117, 100, 101]⟩]
theorem mem_kinds (x : ByteArray) : x ∈ kindsBs ↔ kindsL.contains x.data.toList = true := by
  have h : ∀ l : List UInt8, x = ⟨l.toArray⟩ ↔ x.data.toList = l := fun l => by
    constructor
    · intro e; rw [e]
    · intro e; subst e; simp
  simp only [kindsBs, kindsL, List.contains_iff_mem, List.mem_cons, List.not_mem_nil, or_false, h]
theorem kindsRd (w : World) : Rd (w.alloc (.cells kindsV 9)) (w.alloc (.cells kindsV 9)).heap.size (some ⟨w.heap.size, 0, none⟩) (kindsBs.map Value.string) := fun _ =>
  ⟨w.heap.size, 0, rfl, by simp, fun j u hu => by
    rw [Nat.zero_add, Blk.cell (Blk.new w 9 kindsV)]
    unfold kindsV
    simpa [kindsBs] using hu⟩
theorem hasKinds_any (x : ByteArray) (w : World) : Calls Tryz.prog 29 #[.slice (some ⟨w.heap.size, 0, none⟩) 9 9, .string x] (w.alloc (.cells kindsV 9)) fun e w' =>
    (∃ r : Int, e = .returned (.int .i64 r) ∧ (0 ≤ r ↔ kindsL.contains x.data.toList = true)) ∧ w' = w.alloc (.cells kindsV 9) := by
  have h := has_any (some ⟨w.heap.size, 0, none⟩) 9 kindsBs x (w.alloc (.cells kindsV 9)) (by decide) (kindsRd w)
  rw [mem_kinds, show kindsBs.length = 9 from rfl] at h
  exact h

set_option maxHeartbeats 8000000 in
set_option maxRecDepth 100000 in
theorem refKind_any (k a : Int) (b x : ByteArray) (w : World) (hx : x.size ≤ 20001) :
    Calls Tryz.prog 13 #[.agg #[.int .i64 k, .string b, .string x, .int .i64 a]] w fun e w' => e = .returned (.string (kindB k x)) ∧ Below w.heap.size w w' := by
  by_cases hk : k = 7
  · have hb1 : Below w.heap.size w (w.alloc (.cells #[.int .i64 k, .string b, .string x, .int .i64 a] 29)) := (Below.refl _ _).alloc (Nat.le_refl _) _
    unfold kindB
    rw [if_pos hk]
    subst hk
    by_cases hd : x.data.toList.head? = some 35
    · rw [if_pos hd]
      have WO := fun W => refWords_ok a b x W hx hd
      have HB1 := Lib.hid hb1
      generalize wordsL x = D at *
      clear hb1 hx hd
      cases D with
      | nil =>
        have HWO := Lib.hid WO
        clear WO
        go_enter Tryz.func13, Tryz.ntmps13
        go_wp2_with fail
        refine (HWO.out _).mono ?_
        rintro e w2 ⟨v, rfl, hO, hb2⟩
        have HB2 := Lib.hid (HB1.out.trans (hb2.mono HB1.out.size))
        have hv : ∃ A c, v = .slice A 0 c := by
          rcases hO.2 with ⟨e, _⟩ | ⟨g, cap, cur, e, _⟩
          · exact ⟨_, _, e⟩
          · exact ⟨_, _, e⟩
        obtain ⟨A, c, rfl⟩ := hv
        clear hb2 HB1 HWO hO
        go_wp2
        go_ret
        exact ⟨rfl, HB2.out⟩
      | cons t D =>
        obtain ⟨tk, tb, X, ta⟩ := t
        obtain ⟨n, hn⟩ : ∃ n, n = (⟨tk, tb, X, ta⟩ :: D : List Tk).length := ⟨_, rfl⟩
        have hn1 : 1 ≤ n := by rw [hn, List.length_cons]; omega
        rw [← hn] at WO
        show Calls _ _ _ _ fun e w' => e = .returned (.string (kindX X)) ∧ Below w.heap.size w w'
        have HWO := Lib.hid WO
        have HN := Lib.hid hn1
        have HK := fun W => hasKinds_any X W
        have HHK := Lib.hid HK
        have q0 : (0 : Int) < (n : Int) := by omega
        have q1 : ¬ (n : Int) = 0 := by omega
        have q2 : ((n : Int) == 0) = false := by simpa using q1
        clear WO hn hn1 HK
        go_enter Tryz.func13, Tryz.ntmps13
        go_wp2_with fail
        refine (HWO.out _).mono ?_
        rintro e w2 ⟨v, rfl, hO, hb2⟩
        obtain ⟨g, cap, rfl, hgb, hglt⟩ := hO.form HN.out
        have c2 : w2.cell? ⟨g, 2, none⟩ = some (.string X) := by
          have := hO.cellAt 2 (by have := HN.out; omega)
          rw [this]
          rfl
        have HB2 := Lib.hid (HB1.out.trans (hb2.mono HB1.out.size))
        clear hb2 HB1 HWO hO
        go_wp2_with fail
        refine (HHK.out _).mono ?_
        rintro e w3 ⟨⟨r, rfl, hr⟩, rfl⟩
        have hb3 := HB2.out.alloc HB2.out.size (.cells kindsV 9)
        have HB3 := Lib.hid hb3
        by_cases hX : kindsL.contains X.data.toList = true
        · have h0 : (0 : Int) ≤ r := hr.2 hX
          have HKX : Hid (kindX X = X) := by unfold Hid kindX; rw [if_pos hX]
          clear hr hX hb3 HB2
          go_wp2
          go_ret
          exact ⟨by rw [HKX.out]; rfl, HB3.out⟩
        · have h0 : ¬ (0 : Int) ≤ r := fun g => hX (hr.1 g)
          have HKX : Hid (kindX X = otherB) := by unfold Hid kindX; rw [if_neg hX]
          clear hr hX hb3 HB2
          go_wp2
          go_ret
          exact ⟨by rw [HKX.out]; rfl, HB3.out⟩
    · rw [if_neg hd]
      have WO := fun W => refWords_bad 7 a b x W (fun g => hd g.2)
      have HWO := Lib.hid WO
      have HB1 := Lib.hid hb1
      clear WO hb1 hx hd
      go_enter Tryz.func13, Tryz.ntmps13
      go_wp2_with fail
      refine (HWO.out _).mono ?_
      rintro e w2 ⟨rfl, hb2⟩
      have HB2 := Lib.hid (HB1.out.trans (hb2.mono HB1.out.size))
      clear hb2 HB1 HWO
      go_wp2
      go_ret
      exact ⟨rfl, HB2.out⟩
  · unfold kindB
    rw [if_neg hk]
    clear hx
    go_enter Tryz.func13, Tryz.ntmps13
    go_wp2
    go_ret
    exact ⟨rfl, (Below.refl _ _).alloc (Nat.le_refl _) _⟩

end Go.Proofs.YtjdpkhjoecfhlaaGreatDoor
