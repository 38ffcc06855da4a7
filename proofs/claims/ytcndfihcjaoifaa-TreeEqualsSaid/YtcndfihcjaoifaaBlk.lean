/- A block of several cells that a call made: what it holds, read and written. -/
import Derived.RangeFuncBox
import Derived.Deep.Draws
namespace Go.Proofs.Ytcndfihcjaoifaa
open Go.RowKit

/-- block B holds these cells, none of them frozen -/
def Blk (w : World) (B : Nat) (t : TypeId) (vs : Array Value) : Prop := w.heap[B]? = some (.cells vs t (0, 0))

theorem Blk.lt {w : World} {B : Nat} {t : TypeId} {vs : Array Value} (h : Blk w B t vs) : B < w.heap.size := (Array.getElem?_eq_some_iff.1 h).1
theorem Blk.cell {w : World} {B : Nat} {t : TypeId} {vs : Array Value} (h : Blk w B t vs) (j : Nat) : w.cell? ⟨B, j, none⟩ = vs[j]? := by simp [World.cell?, show w.heap[B]? = _ from h]
theorem Blk.frozen {w : World} {B : Nat} {t : TypeId} {vs : Array Value} (h : Blk w B t vs) (j : Nat) : w.frozen? ⟨B, j, none⟩ = false := by simp [World.frozen?, show w.heap[B]? = _ from h]
theorem Blk.new (w : World) (t : TypeId) (vs : Array Value) : Blk (w.alloc (.cells vs t)) w.heap.size t vs := World.alloc_heap_new w _
theorem Blk.kept {w w' : World} {row : Option Nat} {B : Nat} {t : TypeId} {vs : Array Value} (h : Blk w B t vs) (hg : w.grownBy w' row) (hne : some B ≠ row) : Blk w' B t vs := (hg.block B h.lt hne).trans h
theorem Blk.below {w w' : World} {B B0 : Nat} {t : TypeId} {vs : Array Value} (h : Blk w B t vs) (hb : Below B0 w w') (hlt : B < B0) : Blk w' B t vs := (hb.block B hlt).trans h
theorem Blk.alloc {w : World} {B : Nat} {t : TypeId} {vs : Array Value} (h : Blk w B t vs) (o : Obj) : Blk (w.alloc o) B t vs := h.kept (World.grownBy_alloc w o none) (by simp)
theorem Blk.set {w : World} {B : Nat} {t : TypeId} {vs : Array Value} (h : Blk w B t vs) (j : Nat) (v : Value) : Blk (w.setCell ⟨B, j, none⟩ v) B t (vs.setIfInBounds j v) := by
  obtain ⟨hlt, hk⟩ := Array.getElem?_eq_some_iff.1 h
  show (w.heap.modify B _)[B]? = _
  rw [Array.getElem?_eq_getElem (by rw [Array.size_modify]; exact hlt), Array.getElem_modify_self, hk]
  rfl
theorem Blk.other {w : World} {B : Nat} {t : TypeId} {vs : Array Value} (h : Blk w B t vs) {a : Addr} (hne : B ≠ a.block) (v : Value) : Blk (w.setCell a v) B t vs := (Below.heap_setCell w a v B hne).trans h
theorem Blk.drewN {w : World} {B : Nat} {t : TypeId} {vs : Array Value} (h : Blk w B t vs) (n : Nat) : Blk (w.drewN n) B t vs := h
theorem grownBy_setCellJ (w : World) (b j : Nat) (v : Value) : w.grownBy (w.setCell ⟨b, j, none⟩ v) (some b) :=
  ⟨rfl, rfl, rfl, (KeepsWalks.setCell w _ v).size, fun k _ hk => Below.heap_setCell _ _ _ k (fun e => hk (by rw [e]))⟩
theorem grownBy_trans {a b c : World} {row : Option Nat} (h : a.grownBy b row) (k : b.grownBy c row) : a.grownBy c row :=
  ⟨k.os.trans h.os, k.tape.trans h.tape, k.output.trans h.output, Nat.le_trans h.size k.size, fun i hi hr => (k.block i (Nat.lt_of_lt_of_le hi h.size) hr).trans (h.block i hi hr)⟩
theorem grownBy_refl (w : World) (row : Option Nat) : w.grownBy w row := ⟨rfl, rfl, rfl, Nat.le_refl _, fun _ _ _ => rfl⟩
theorem grownBy_any {a b : World} (h : a.grownBy b none) (row : Option Nat) : a.grownBy b row := ⟨h.os, h.tape, h.output, h.size, fun i hi _ => h.block i hi (by simp)⟩
theorem grownBy_drewN (w : World) (n : Nat) (row : Option Nat) : w.grownBy (w.drewN n) row := ⟨rfl, rfl, rfl, Nat.le_refl _, fun _ _ _ => rfl⟩
theorem grownBy_below {a b : World} (h : Below a.heap.size a b) (row : Option Nat) : a.grownBy b row := ⟨h.os, h.tape, h.output, h.size, fun i hi _ => h.block i hi⟩
theorem below_grown {a b : World} {p B : Nat} (h : a.grownBy b (some p)) (hB : B ≤ p) (hB2 : B ≤ a.heap.size) : Below B a b := ⟨h.os, h.tape, h.output, h.size, fun i hi => h.block i (by omega) (by simp; omega)⟩

end Go.Proofs.Ytcndfihcjaoifaa
