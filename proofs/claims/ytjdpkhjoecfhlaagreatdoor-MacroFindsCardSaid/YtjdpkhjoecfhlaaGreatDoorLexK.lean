/- Lex: the set of keys: its making, and a look-up in it. -/
import Derived.Test.YtjdpkhjoecfhlaaGreatDoorLexC
import Derived.Test.YtjdpkhjoecfhlaaGreatDoorBlk
import Derived.Maps.OwnOps
import Derived.Maps.OwnSet
namespace Go.Proofs.YtjdpkhjoecfhlaaGreatDoor
open Go.RowKit Go.Maps Go.Shelf

/-- a variable of the program is this list of texts; all below block n0 -/
def WordsAt (w : World) (n0 g : Nat) (l : List ByteArray) : Prop :=
  g < n0 ∧ ∃ B off c, B < n0 ∧ w.cell? ⟨g, 0, none⟩ = some (.slice (some ⟨B, off, none⟩) l.length c) ∧ ∀ (j : Nat) (h : j < l.length), w.cell? ⟨B, off + j, none⟩ = some (.string l[j])
theorem WordsAt.below {w w' : World} {n0 g : Nat} {l : List ByteArray} (h : WordsAt w n0 g l) (hb : Below n0 w w') : WordsAt w' n0 g l := by
  obtain ⟨hg, B, off, c, hB, h1, h2⟩ := h
  exact ⟨hg, B, off, c, hB, (hb.cell (p := ⟨g, 0, none⟩) hg).trans h1, fun j hj => (hb.cell (p := ⟨B, off + j, none⟩) hB).trans (h2 j hj)⟩

def toB (l : List UInt8) : ByteArray := ⟨l.toArray⟩
theorem toB_list (l : List UInt8) : (toB l).data.toList = l := by simp [toB]
theorem toB_self (s : ByteArray) : toB s.data.toList = s := by cases s; simp [toB]
def keysB : List ByteArray := keysL.map toB
def signsB : List ByteArray := signsL.map toB

/-- the map of keys, as data -/
def keyD (l : List (List UInt8)) : DataW Unit := Maps.setOf (.lit (.bool true)) (l.map Lit.string)
theorem keyD_take (l : List (List UInt8)) (k : Nat) (h : k < l.length) : keyD (l.take (k + 1)) = (keyD (l.take k)).put (.string l[k]) (.lit (.bool true)) := by
  unfold keyD
  rw [List.take_succ_eq_append_getElem h, List.map_append, List.map_singleton, Maps.setOf_snoc]
theorem fold_atKey (u z : DataW Unit) (k : List UInt8) : ∀ (acc : List (List UInt8)) (m : DataW Unit), Maps.IsMap m → ((acc.map Lit.string).foldl (fun m x => m.put x u) m).atKey (.string k) z = if acc.contains k = true then u else m.atKey (.string k) z
  | [], m, _ => by simp
  | x :: acc, m, hm => by
    rw [List.map_cons, List.foldl_cons, fold_atKey u z k acc _ (hm.put _ _)]
    by_cases h : acc.contains k = true
    · rw [if_pos h, if_pos (by simp at h ⊢; exact .inr h)]
    · rw [if_neg h]
      by_cases e : k = x
      · subst e
        rw [if_pos (by simp), Maps.atKey_put_same hm (by first | trivial | simp [WideAt.IsKeyLit])]
      · rw [Maps.atKey_put_other (by simpa using e), if_neg (by simp at h ⊢; exact ⟨e, h⟩)]
theorem keyD_atKey (l : List (List UInt8)) (k : List UInt8) : (keyD l).atKey (.string k) (.lit (.bool false)) = .lit (.bool (l.contains k)) := by
  unfold keyD Maps.setOf
  rw [fold_atKey _ _ _ _ _ Maps.isMap_empty]
  cases l.contains k <;> rfl

theorem keyStr : Keyed Tryz.prog 9 := string_keyed Tryz.underlying9
theorem zeroBool (w : World) : (zeroValue 4).run Tryz.prog w = .ok (.bool false) w := by kernel_rfl

/-- block K holds the keys -/
def KeySet (w : World) (K : Nat) : Prop := w.ownsMap Tryz.prog 9 (plainElem Tryz.prog 4) K 28 (keyD keysL)
theorem KeySet.lt {w : World} {K : Nat} (h : KeySet w K) : K < w.heap.size := World.ownsMap.lt h
theorem KeySet.kept {w w' : World} {K : Nat} {row : Option Nat} (h : KeySet w K) (hg : w.grownBy w' row) (hne : some K ≠ row) : KeySet w' K := World.ownsMap.kept h hg hne
theorem KeySet.drewN {w : World} {K : Nat} (h : KeySet w K) (n : Nat) : KeySet (w.drewN n) K := h

theorem boolElem_inv {P : Program} {e : TypeId} (he : P.underlying e = some .bool) {v : Value} {z : DataW Unit × List MemPlace} (h : plainElem P e v = some z) : ∃ b, v = .bool b ∧ z = (.lit (.bool b), []) := by
  unfold plainElem at h
  rw [he] at h
  cases v with
  | bool x => exact ⟨x, rfl, (Option.some.inj h).symm⟩
  | _ => cases h

theorem KeySet.look {w : World} {K : Nat} (h : KeySet w K) (s : ByteArray) (hs : s.size ≤ maxLen) :
    (Instr.lookup 160 (.map (some K)) (.string s) false).run Tryz.prog w = .ok (.bool (keysL.contains s.data.toList)) w := by
  have hkey := WideMaps.keyOf_string_mk (P := Tryz.prog) Tryz.underlying9 (s := s) hs
  obtain ⟨v, ps, hrun, hv⟩ := World.ownsMap.lookup h keyStr Tryz.underlying160 (zeroBool w) (plainElem_bool Tryz.underlying4 false) hkey
  obtain ⟨b, rfl, hb⟩ := boolElem_inv Tryz.underlying4 hv
  rw [keyD_atKey] at hb
  simp only [Prod.mk.injEq, DataW.lit.injEq, Lit.bool.injEq] at hb
  rw [hrun, hb.1]

theorem keysL_len : keysL.length = 28 := by decide
theorem keysB_len : keysB.length = 28 := by unfold keysB; rw [List.length_map]; exact keysL_len
theorem keysB_get (k : Nat) (h : k < keysB.length) : keysB[k] = toB (keysL[k]'(by rw [keysB_len] at h; rw [keysL_len]; exact h)) := by simp [keysB]
theorem keys_small : ∀ x ∈ keysL, x.length ≤ 20 := by decide

set_option maxHeartbeats 4000000 in
set_option maxRecDepth 100000 in
theorem keySet_any (n0 : Nat) (w : World) (hn : n0 ≤ w.heap.size) (hk : WordsAt w n0 0 keysB) :
    Calls Tryz.prog 91 #[] w fun e w' => e = .returned (.map (some w.heap.size)) ∧ KeySet w' w.heap.size ∧ Below w.heap.size w w' := by
  have hmm : ∀ W, (Instr.makeMap 160 (some (.int .i64 28))).run Tryz.prog W = .ok (.map (some W.heap.size)) (W.alloc (.map #[] 0)) := fun W => by kernel_rfl
  obtain ⟨hg, B, off, c, hB, h1, h2⟩ := hk
  rw [keysB_len] at h1
  have hg' : 0 < w.heap.size := by omega
  have H2 := Lib.hid h2
  clear h2
  go_enter Tryz.func91, Tryz.ntmps91
  go_wp2
  have hD0 : (w.alloc (.map #[] 0)).ownsMap Tryz.prog 9 (plainElem (H := Unit) Tryz.prog 4) w.heap.size 0 (keyD (keysL.take 0)) := World.ownsMap_made _ _ _ _
  have HB0 : Below w.heap.size w (w.alloc (.map #[] 0)) := (Below.refl _ _).alloc (Nat.le_refl _) _
  go_loopw [3, 9] (fun _ vi wr => ∃ k : Nat, k ≤ 28 ∧ vi = .int .i64 k ∧ Hid (wr.ownsMap Tryz.prog 9 (plainElem (H := Unit) Tryz.prog 4) w.heap.size k (keyD (keysL.take k))) ∧ Hid (Below w.heap.size w wr)) (fun _ vi _ => 28 - (intOf vi).toNat)
  case atStart => exact ⟨0, by omega, rfl, hD0, HB0⟩
  case round =>
    clear hD0 HB0
    obtain ⟨k, hk, rfl, hD, hB2⟩ := hrel
    by_cases hlt : k < 28
    · have hlb : k < keysB.length := by rw [keysB_len]; exact hlt
      have hck : wr.cell? ⟨B, off + k, none⟩ = some (.string keysB[k]) := (hB2.out.cell (p := ⟨B, off + k, none⟩) (by simp; omega)).trans (H2.out k hlb)
      have hst := keyD_take keysL k (by rw [keysL_len]; exact hlt)
      have hsm := keys_small (keysL[k]'(by rw [keysL_len]; exact hlt)) (List.getElem_mem _)
      rw [keysB_get k hlb] at hck
      generalize keysL[k]'_ = x at *
      have hkey := WideMaps.keyOf_string_mk (P := Tryz.prog) Tryz.underlying9 (s := toB x) (by unfold maxLen; simp [toB, ByteArray.size]; omega)
      rw [toB_list] at hkey
      have hval := plainElem_bool (H := Unit) (P := Tryz.prog) Tryz.underlying4 true
      have HST := Lib.hid hst
      have HD := hD.out
      have hBlt : B < w.heap.size := by omega
      clear hst hsm hD
      generalize toB x = xb at *
      go_wp2_with (first | (at_mapUpdate; refine wpList_mapUpdate_own _ rfl _ _ _ 160 rfl 9 4 keyStr Tryz.underlying160 _ w.heap.size k _ rfl HD (by unfold maxLen; omega) _ _ _ rfl rfl hkey _ [] hval ?_; intro w2 hown2 hg2; have HO2 := Lib.hid hown2; have HG2 := Lib.hid hg2; clear hown2 hg2) | go_in)
      go_roundw
      case rel =>
        refine ⟨k + 1, by omega, by go_num, ?_, hB2.out.grown HG2.out hB2.out.size (fun j e => by cases e; exact Nat.le_refl _)⟩
        unfold Hid
        rw [HST.out]
        exact HO2.out
      case measure => simp [intOf]; omega
    · obtain rfl : k = 28 := by omega
      have hfull : keysL.take 28 = keysL := List.take_of_length_le (by rw [keysL_len]; exact Nat.le_refl _)
      have HD := hD.out
      rw [hfull] at HD
      have HD2 := Lib.hid HD
      clear HD hD hfull
      go_wp2
      go_ret
      exact ⟨rfl, HD2.out, hB2.out⟩

end Go.Proofs.YtjdpkhjoecfhlaaGreatDoor
