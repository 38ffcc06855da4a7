/- Lex: whether two lists of tokens are the same (EqTokens). -/
import Derived.Test.YtjdpkhjoecfhlaaGreatDoorLexAll
import Derived.Test.YtjdpkhjoecfhlaaGreatDoorLexP
import Derived.Test.YtjdpkhjoecfhlaaGreatDoorLexJ
import Derived.Laws.StructEq
import Derived.RegionTactic
namespace Go.Proofs.YtjdpkhjoecfhlaaGreatDoor
open Go.RowKit Go.Maps Go.Shelf

instance : DecidableEq Tk := fun x y =>
  if h : x.k = y.k ∧ x.b = y.b ∧ x.x = y.x ∧ x.a = y.a then isTrue (by cases x; cases y; simp_all) else isFalse (fun e => h (by rw [e]; exact ⟨rfl, rfl, rfl, rfl⟩))
theorem Tk.ext4 {x y : Tk} (h1 : x.k = y.k) (h2 : x.b = y.b) (h3 : x.x = y.x) (h4 : x.a = y.a) : x = y := by cases x; cases y; simp_all

theorem ba_extL {a b : ByteArray} (h : a.data.toList = b.data.toList) : a = b := by
  cases a; cases b; simp_all [Array.toList_inj]

/-- '==' of two tokens -/
theorem run_eqlTk (x y : Tk) (w : World) : (binOp .eql 29 (.agg #[.int .i64 x.k, .string x.b, .string x.x, .int .i64 x.a]) (.agg #[.int .i64 y.k, .string y.b, .string y.x, .int .i64 y.a])).run Tryz.prog w = .ok (.bool (decide (x = y))) w := by
  go_simp
  by_cases h : x = y
  · subst h; simp
  · rw [decide_eq_false h]
    by_cases h1 : x.k = y.k
    · by_cases h2 : x.b = y.b
      · by_cases h3 : x.x = y.x
        · by_cases h4 : x.a = y.a
          · exact absurd (Tk.ext4 h1 h2 h3 h4) h
          · have h4' : ¬ (x.a : Int) = y.a := by omega
            simp [h1, h2, h3, h4']
        · have h3' : ¬ x.x.toList = y.x.toList := fun e => h3 (ba_extL (by rw [ByteArray.toList_eq, ByteArray.toList_eq] at e; exact e))
          simp [h1, h2, h3']
      · have h2' : ¬ x.b.toList = y.b.toList := fun e => h2 (ba_extL (by rw [ByteArray.toList_eq, ByteArray.toList_eq] at e; exact e))
        simp [h1, h2']
    · have h1' : ¬ (x.k : Int) = y.k := by omega
      simp [h1']
theorem run_neqTk (x y : Tk) (w : World) : (binOp .neq 29 (.agg #[.int .i64 x.k, .string x.b, .string x.x, .int .i64 x.a]) (.agg #[.int .i64 y.k, .string y.b, .string y.x, .int .i64 y.a])).run Tryz.prog w = .ok (.bool (!decide (x = y))) w := by
  have h := run_eqlTk x y w
  rw [run_eql_struct] at h
  rw [run_neq_struct]
  cases hr : (Op.equalIn 10000 29 (.agg #[.int .i64 x.k, .string x.b, .string x.x, .int .i64 x.a]) (.agg #[.int .i64 y.k, .string y.b, .string y.x, .int .i64 y.a])).run Tryz.prog w with
  | ok b w' =>
    rw [hr] at h
    simp only [Result.andThen, Result.ok.injEq, Value.bool.injEq] at h ⊢
    exact ⟨by rw [h.1], h.2⟩
  | halt e w' => rw [hr] at h; simp [Result.andThen] at h

set_option maxHeartbeats 1000000 in
set_option maxRecDepth 100000 in
theorem eqTok_any (A A2 : Option Addr) (c c2 : Nat) (a b : List Tk) (w : World) (ha : a.length ≤ 1000000) (hb : b.length ≤ 1000000) (h1 : TRd w w.heap.size A a) (h2 : TRd w w.heap.size A2 b) :
    Calls Tryz.prog 14 #[.slice A a.length c, .slice A2 b.length c2] w fun e w' => e = .returned (.bool (decide (a = b))) ∧ Below w.heap.size w w' := by
  have H1 := Lib.hid h1
  have H2 := Lib.hid h2
  clear h1 h2
  go_enter Tryz.func14, Tryz.ntmps14
  by_cases hl : a.length = b.length
  · have hlI : (a.length : Int) = b.length := by omega
    go_wp2
    have HLL := Lib.hid hl
    clear hl hlI
    go_loopw [5] (fun vi wr => ∃ k : Nat, k ≤ a.length ∧ vi = .int .i64 k ∧ Hid (a.take k = b.take k) ∧ Below w.heap.size w wr) (fun vi _ => a.length - (intOf vi).toNat)
    case atStart => exact ⟨0, Nat.zero_le _, rfl, rfl, Below.refl _ _⟩
    case round =>
      obtain ⟨k, hk, rfl, hT, hB⟩ := hrel
      by_cases hlt : k < a.length
      · have hltb : k < b.length := by have := HLL.out; omega
        obtain ⟨b1, off1, e1, hB1, c0, c1, c2, c3⟩ := (H1.out.below hB).at_ k hlt
        obtain ⟨b2, off2, e2, hB2, d0, d1, d2, d3⟩ := (H2.out.below hB).at_ k hltb
        cases e1
        cases e2
        have t1 := List.take_succ_eq_append_getElem hlt
        have t2 := List.take_succ_eq_append_getElem hltb
        have hne : ¬ a[k] = b[k] → decide (a = b) = false := fun h => by
          simp only [decide_eq_false_iff_not]
          rintro rfl
          exact h rfl
        generalize a[k] = x1 at *
        generalize b[k] = y1 at *
        have hnq := fun W => run_neqTk x1 y1 W
        have HT1 := Lib.hid t1
        have HT2 := Lib.hid t2
        have HNE := Lib.hid hne
        clear t1 t2 hne
        by_cases hxy : x1 = y1
        · have hxy' : (!decide (x1 = y1)) = false := by simp [hxy]
          rw [hxy'] at hnq
          have HXY := Lib.hid hxy
          clear hxy hxy'
          go_wp2
          go_region
          go_wp2
          go_roundw
          case rel =>
            refine ⟨k + 1, by omega, by go_num, ?_, hB.drew⟩
            unfold Hid
            rw [HT1.out, HT2.out, hT.out, HXY.out]
          case measure => simp [intOf]; omega
        · have hxy' : (!decide (x1 = y1)) = true := by simp [hxy]
          rw [hxy'] at hnq
          have HD := Lib.hid (HNE.out hxy)
          clear hxy hxy'
          go_wp2
          go_region
          go_wp2
          go_ret
          exact ⟨by rw [HD.out]; rfl, hB.drew⟩
      · obtain rfl : k = a.length := by omega
        have hd : decide (a = b) = true := by
          have := hT.out
          rw [List.take_length, HLL.out, List.take_length] at this
          simp [this]
        have HD := Lib.hid hd
        clear hd hT
        go_wp2
        go_ret
        exact ⟨by rw [HD.out]; rfl, hB⟩
  · have hlI : ¬ (a.length : Int) = b.length := by omega
    have hd : decide (a = b) = false := by simp; intro e; exact hl (by rw [e])
    rw [hd]
    clear hd
    go_wp2
    go_ret
    exact ⟨rfl, Below.refl _ _⟩

/-- the tokens that Scan answers, wherever they lie -/
theorem scanL_len (s : ByteArray) : (scanL s).length ≤ 40000 := by
  unfold scanL
  by_cases h : scanOk s = true
  · rw [if_pos h]
    have h2 : s.size ≤ 200000 ∧ (tokR true 0 s.data.toList).length ≤ 40000 := by simpa [scanOk] using h
    exact h2.2
  · rw [if_neg h]; exact Nat.zero_le _
theorem own_len {w : World} {b n : Nat} {e : TypeId} {k : Nat} {v : Value} {xs : List Value} (h : w.ownsRow b e k v n xs) : ∃ A c, v = .slice A n c := by
  rcases h.2 with ⟨h2, h3⟩ | ⟨g, cap, cur, e1, h3, r⟩
  · exact ⟨none, 0, by rw [h2, h3]⟩
  · exact ⟨_, _, e1⟩

end Go.Proofs.YtjdpkhjoecfhlaaGreatDoor
