import Derived.Test.YtgpmodbndngcoaaDoorPlain
namespace Go.Proofs.YtgpmodbndngcoaaDoor
open Go.RowKit

theorem clash_step (l : List Ed) (k : Nat) (h : k < l.length) (e p : Int) :
    clashGo (l.drop k) e p = if l[k].f < e ∨ (l[k].f = l[k].t ∧ l[k].f = p) then true else if l[k].f = l[k].t then clashGo (l.drop (k + 1)) e l[k].f else clashGo (l.drop (k + 1)) l[k].t p := by
  rw [List.drop_eq_getElem_cons h]; rfl

theorem clash_end (l : List Ed) (k : Nat) (h : l.length ≤ k) (e p : Int) : clashGo (l.drop k) e p = false := by
  rw [List.drop_eq_nil_of_le h]; rfl

set_option maxHeartbeats 400000 in
theorem clash_any (A : Option Addr) (c : Nat) (l : List Ed) (w : World) (hl : l.length ≤ 140737488355328) (h : ESl w w.heap.size A l) :
    Calls Tryd.prog 92 #[.slice A l.length c] w fun e w' => e = .returned (.bool (clashGo l 0 (-1))) ∧ Below w.heap.size w w' := by
  go_enter Tryd.func92, Tryd.ntmps92
  go_wp2
  go_loopw [3, 4, 10] (fun e p i wr => ∃ (k : Nat) (en pt : Int), k ≤ l.length ∧ e = .int .i64 en ∧ p = .int .i64 pt ∧ i = .int .i64 k ∧ Hid (clashGo (l.drop k) en pt = clashGo l 0 (-1)) ∧ Below w.heap.size w wr) (fun _ _ i _ => l.length - (intOf i).toNat)
  case atStart => exact ⟨0, 0, -1, Nat.zero_le _, rfl, rfl, rfl, (rfl : _ = _), Below.refl _ _⟩
  case round =>
    obtain ⟨k, en, pt, hk, rfl, rfl, rfl, hc, hb⟩ := hrel
    by_cases hlt : k < l.length
    · obtain ⟨b, off, rfl, hB, c0, c1, c2⟩ := (h.below hb).at_ k hlt
      have hs := clash_step l k hlt en pt
      rw [hc.out] at hs
      clear hc h
      generalize l[k].f = f at *
      generalize l[k].t = t at *
      have HS := Lib.hid hs
      clear hs
      by_cases h2 : f = t
      · subst h2
        by_cases h1 : f < en
        · go_wp2
          go_ret
          exact ⟨ret_bool (by rw [HS.out, if_pos (.inl h1)]), hb.alloc hb.size _⟩
        · by_cases h3 : f = pt
          · subst h3
            go_wp2
            go_ret
            exact ⟨ret_bool (by rw [HS.out]; simp), hb.alloc hb.size _⟩
          · go_wp2
            go_roundw
            case rel => exact ⟨k + 1, en, f, by omega, rfl, rfl, by go_num, by unfold Hid; rw [HS.out, if_neg (by omega), if_pos rfl], hb.alloc hb.size _⟩
            case measure => simp [intOf]; omega
      · by_cases h1 : f < en
        · go_wp2
          go_ret
          exact ⟨ret_bool (by rw [HS.out, if_pos (.inl h1)]), hb.alloc hb.size _⟩
        · go_wp2
          go_roundw
          case rel => exact ⟨k + 1, t, pt, by omega, rfl, rfl, by go_num, by unfold Hid; rw [HS.out, if_neg (by omega), if_neg h2], hb.alloc hb.size _⟩
          case measure => simp [intOf]; omega
    · have HS := clash_end l k (by omega) en pt
      rw [hc.out] at HS
      have HS := Lib.hid HS
      clear hc h
      go_wp2
      go_ret
      exact ⟨ret_bool (by rw [HS.out]), hb⟩

end Go.Proofs.YtgpmodbndngcoaaDoor
