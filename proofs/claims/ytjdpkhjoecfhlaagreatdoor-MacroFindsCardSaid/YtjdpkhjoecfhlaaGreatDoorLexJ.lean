/- Lex: the lists of keys and signs; names in the document. -/
import Derived.Test.YtjdpkhjoecfhlaaGreatDoorLexI
namespace Go.Proofs.YtjdpkhjoecfhlaaGreatDoor
open Go.RowKit Go.Maps Go.Shelf

theorem infoStrL : (Tryz.prog.info? 9).map (fun i => (i.zero, i.size, i.bytes)) = some (some (.string ⟨#[]⟩), 1, 16) := by kernel_rfl

set_option maxHeartbeats 1000000 in
set_option maxRecDepth 100000 in
theorem eqStr_any (A A2 : Option Addr) (c c2 : Nat) (a b : List ByteArray) (w : World) (ha : a.length ≤ 1000000) (hb : b.length ≤ 1000000) (h1 : Rd w w.heap.size A (a.map Value.string)) (h2 : Rd w w.heap.size A2 (b.map Value.string)) :
    Calls Tryz.prog 64 #[.slice A a.length c, .slice A2 b.length c2] w fun e w' => e = .returned (.bool (decide (a = b))) ∧ Below w.heap.size w w' := by
  have H1 := Lib.hid h1
  have H2 := Lib.hid h2
  clear h1 h2
  go_enter Tryz.func64, Tryz.ntmps64
  by_cases hl : a.length = b.length
  · have hlI : (a.length : Int) = b.length := by omega
    go_wp2
    have HLL := Lib.hid hl
    clear hl hlI
    go_loopw [5] (fun vi wr => ∃ k : Nat, k ≤ a.length ∧ vi = .int .i64 k ∧ Hid (a.take k = b.take k) ∧ Below w.heap.size w wr) (fun vi _ => a.length - (intOf vi).toNat)
    case atStart => exact ⟨0, Nat.zero_le _, rfl, rfl, Below.refl _ _⟩
    case round =>
      obtain ⟨k, hk, rfl, hT, hB⟩ := hrel
      by_cases hlt : k < a.length
      · have hltb : k < b.length := by have := HLL.out; omega
        have hlA : 0 < (a.map Value.string).length := by rw [List.length_map]; omega
        obtain ⟨ba1, oa1, eA, hBa, hca1⟩ := H1.out hlA
        have cA := (hB.cell (p := ⟨ba1, oa1 + k, none⟩) hBa).trans (hca1 k (.string a[k]) (by simp [hlt]))
        have hlB : 0 < (b.map Value.string).length := by rw [List.length_map]; omega
        obtain ⟨bb1, ob1, eB, hBb, hcb1⟩ := H2.out hlB
        have cB := (hB.cell (p := ⟨bb1, ob1 + k, none⟩) hBb).trans (hcb1 k (.string b[k]) (by simp [hltb]))
        have hTk := hT.out
        have t1 := List.take_succ_eq_append_getElem hlt
        have t2 := List.take_succ_eq_append_getElem hltb
        have hne : ¬ a[k] = b[k] → decide (a = b) = false := fun h => by
          simp only [decide_eq_false_iff_not]
          rintro rfl
          exact h rfl
        cases eA
        cases eB
        clear hlA hlB hca1 hcb1
        generalize a[k] = x1 at *
        generalize b[k] = y1 at *
        have HT1 := Lib.hid t1
        have HT2 := Lib.hid t2
        have HNE := Lib.hid hne
        clear t1 t2 hTk hne
        by_cases hxy : x1 = y1
        · subst hxy
          go_wp2
          go_region
          go_wp2
          go_roundw
          case rel =>
            refine ⟨k + 1, by omega, by go_num, ?_, hB.drew⟩
            unfold Hid
            rw [HT1.out, HT2.out, hT.out]
          case measure => simp [intOf]; omega
        · have hdec := (by rw [strB, decide_eq_false hxy] : (x1.toList == y1.toList) = false)
          have HD := Lib.hid (HNE.out hxy)
          clear hxy
          go_wp2
          go_region
          go_wp2
          go_ret
          exact ⟨by rw [HD.out]; rfl, hB.drew⟩
      · obtain rfl : k = a.length := by omega
        have hd : decide (a = b) = true := by
          have := hT.out
          rw [List.take_length, HLL.out, List.take_length] at this
          simp [this]
        have HD := Lib.hid hd
        clear hd hT
        go_wp2
        go_ret
        exact ⟨by rw [HD.out]; rfl, hB⟩
  · have hlI : ¬ (a.length : Int) = b.length := by omega
    have hd : decide (a = b) = false := by simp; intro e; exact hl (by rw [e])
    rw [hd]
    clear hd
    go_wp2
    go_ret
    exact ⟨rfl, Below.refl _ _⟩

theorem wakeL_ok : scanOk ⟨#[97, 32, 47, 42, 32, 98, 32, 42, 47, 43, 49]⟩ = true := by decide +kernel
theorem wakeL_toks : tokR true 0 [97, 32, 47, 42, 32, 98, 32, 42, 47, 43, 49] = [⟨1, ⟨#[]⟩, ⟨#[97]⟩, 0⟩, ⟨6, ⟨#[32, 47, 42, 32, 98, 32, 42, 47]⟩, ⟨#[43]⟩, 9⟩, ⟨3, ⟨#[]⟩, ⟨#[49]⟩, 10⟩, ⟨0, ⟨#[]⟩, ⟨#[]⟩, 11⟩] := by kernel_rfl

end Go.Proofs.YtjdpkhjoecfhlaaGreatDoor
