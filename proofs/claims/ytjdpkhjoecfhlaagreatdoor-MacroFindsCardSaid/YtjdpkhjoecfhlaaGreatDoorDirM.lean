/- Cond: the program's Words: plain part of its loop. -/
import Derived.Test.YtjdpkhjoecfhlaaGreatDoorDirT
namespace Go.Proofs.YtjdpkhjoecfhlaaGreatDoor
open Go.RowKit

/-- the words while the loop turns them: k are turned -/
def mixL (D : List Tk) (k : Nat) : List Tk := D.take k ++ (D.drop k).map toAt
theorem mix_zero (D : List Tk) : mixL D 0 = D.map toAt := by simp [mixL]
theorem mix_all (D : List Tk) : mixL D D.length = D := by simp [mixL]
theorem mix_len (D : List Tk) (k : Nat) (hk : k ≤ D.length) : (mixL D k).length = D.length := by
  rw [mixL, List.length_append, List.length_map, List.length_take, List.length_drop]; omega
theorem mix_this (D : List Tk) (k : Nat) (hk : k < D.length) : mixL D k = D.take k ++ toAt D[k] :: (D.drop (k + 1)).map toAt := by
  rw [mixL, List.drop_eq_getElem_cons hk, List.map_cons]
theorem mix_next (D : List Tk) (k : Nat) (hk : k < D.length) : mixL D (k + 1) = D.take k ++ D[k] :: (D.drop (k + 1)).map toAt := by
  rw [mixL, List.take_succ_eq_append_getElem hk, List.append_assoc]; rfl
theorem sets_bx (X Y : List Tk) (T : Tk) (b x : ByteArray) (n : Nat) (hn : n = X.length) : ((cellsT (X ++ T :: Y)).set (n * 4 + 1) (.string b)).set (n * 4 + 2) (.string x) = cellsT (X ++ ⟨T.k, b, x, T.a⟩ :: Y) := by
  have hl : (cellsT X).length = n * 4 := by rw [cellsT_length, hn]
  rw [cellsT_append, cellsT_append]
  show (((cellsT X ++ .int .i64 T.k :: .string T.b :: .string T.x :: .int .i64 T.a :: cellsT Y).set (n * 4 + 1) (.string b)).set (n * 4 + 2) (.string x)) = cellsT X ++ .int .i64 T.k :: .string b :: .string x :: .int .i64 T.a :: cellsT Y
  rw [← hl, List.set_append_right _ _ (by omega), List.set_append_right _ _ (by omega)]
  simp
theorem sets_k (X Y : List Tk) (T : Tk) (k : Nat) (n : Nat) (hn : n = X.length) : (cellsT (X ++ T :: Y)).set (n * 4) (.int .i64 k) = cellsT (X ++ ⟨k, T.b, T.x, T.a⟩ :: Y) := by
  have hl : (cellsT X).length = n * 4 := by rw [cellsT_length, hn]
  rw [cellsT_append, cellsT_append]
  show (cellsT X ++ .int .i64 T.k :: .string T.b :: .string T.x :: .int .i64 T.a :: cellsT Y).set (n * 4) (.int .i64 k) = cellsT X ++ .int .i64 k :: .string T.b :: .string T.x :: .int .i64 T.a :: cellsT Y
  rw [← hl, List.set_append_right _ _ (by omega)]
  simp
/-- a turn of the loop, at a word that is no # and at one that is -/
theorem turn_no (D : List Tk) (k : Nat) (hk : k < D.length) (h : ¬ D[k].x.data.toList = [35]) : ((cellsT (mixL D k)).set (k * 4 + 1) (.string D[k].b)).set (k * 4 + 2) (.string D[k].x) = cellsT (mixL D (k + 1)) := by
  rw [mix_this D k hk, mix_next D k hk, sets_bx _ _ _ _ _ k (by rw [List.length_take]; omega)]
  have : (⟨(toAt D[k]).k, D[k].b, D[k].x, (toAt D[k]).a⟩ : Tk) = D[k] := by
    unfold toAt
    rw [if_neg h]
  rw [this]
theorem turn_yes (D : List Tk) (k : Nat) (hk : k < D.length) (h : D[k].k = 6) : (((cellsT (mixL D k)).set (k * 4 + 1) (.string D[k].b)).set (k * 4 + 2) (.string D[k].x)).set (k * 4) (.int .i64 6) = cellsT (mixL D (k + 1)) := by
  have hl : k = (D.take k).length := by rw [List.length_take]; omega
  rw [mix_this D k hk, mix_next D k hk, sets_bx _ _ _ _ _ k hl, show ((6 : Int)) = ((6 : Nat) : Int) from rfl, sets_k _ _ _ _ k hl]
  have : (⟨6, D[k].b, D[k].x, (toAt D[k]).a⟩ : Tk) = D[k] := by rw [← h]; rfl
  rw [this]
theorem mix_cells (D : List Tk) (k : Nat) (hk : k < D.length) : (cellsT (mixL D k))[k * 4]? = some (.int .i64 (toAt D[k]).k) ∧ (cellsT (mixL D k))[k * 4 + 1]? = some (.string (toAt D[k]).b) ∧ (cellsT (mixL D k))[k * 4 + 2]? = some (.string (toAt D[k]).x) ∧ (cellsT (mixL D k))[k * 4 + 3]? = some (.int .i64 D[k].a) := by
  have hl : k < (mixL D k).length := by rw [mix_len D k (by omega)]; exact hk
  have h := cellsT_get (mixL D k) k hl
  have e : (mixL D k)[k] = toAt D[k] := by
    have e1 : (mixL D k)[k]? = some (toAt D[k]) := by
      rw [mix_this D k hk, List.getElem?_append_right (by rw [List.length_take]; omega), List.length_take, show k - min k D.length = 0 by omega]
      rfl
    rw [List.getElem?_eq_getElem hl] at e1
    exact Option.some.inj e1
  rw [e] at h
  exact h
theorem rd_pre {w : World} {B : Nat} {A : Option Addr} {xs ys : List Value} (h : Rd w B A (xs ++ ys)) : Rd w B A xs := fun hl => by
  obtain ⟨b, off, e, h1, h2⟩ := h (by rw [List.length_append]; omega)
  exact ⟨b, off, e, h1, fun j u hu => h2 j u (by rw [List.getElem?_append_left (List.getElem?_eq_some_iff.1 hu).1]; exact hu)⟩
theorem cells_last (D : List Tk) (h : 0 < D.length) : ∃ ys, cellsT D = cellsT D.dropLast ++ ys := by
  have hne : D ≠ [] := List.ne_nil_of_length_pos h
  exact ⟨cellsT [D.getLast hne], by rw [← cellsT_append, List.dropLast_concat_getLast hne]⟩
theorem own_belowD {w w' : World} {base k n : Nat} {e : TypeId} {v : Value} {xs : List Value} (h : w.ownsRow base e k v n xs) (hb : Below w.heap.size w w') : w'.ownsRow base e k v n xs :=
  h.kept (row := none) ⟨hb.os, hb.tape, hb.output, hb.size, fun j hj _ => hb.block j hj⟩ (by cases hv : Value.ownBlock v <;> simp)
theorem toAt_size (t : Tk) : (toAt t).x.size = t.x.size := by
  show (mapAt t.x.data.toList).toArray.size = _
  rw [List.size_toArray, mapAt_len]
  simp

end Go.Proofs.YtjdpkhjoecfhlaaGreatDoor
