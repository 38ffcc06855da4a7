/- TreeEquals: three trees and a fourth in memory; what being alike is. -/
import Derived.Test.YtcndfihcjaoifaaTAlk

namespace Go.Proofs.Ytcndfihcjaoifaa
open Go.RowKit Go.Maps

def C6 (W : World) (p : Nat) (op : Int) (s : ByteArray) (n f t : Int) (v : Value) : Prop :=
  W.cell? ⟨p, 0, none⟩ = some (.int .i64 op) ∧ W.cell? ⟨p, 1, none⟩ = some (.string s) ∧ W.cell? ⟨p, 2, none⟩ = some (.int .i64 n) ∧ W.cell? ⟨p, 3, none⟩ = some (.int .i64 f) ∧ W.cell? ⟨p, 4, none⟩ = some (.int .i64 t) ∧ W.cell? ⟨p, 5, none⟩ = some v

/-- three blocks of nodes side by side -/
def Thr (w W : World) (a b c : Nd) : Prop := NBlk W w.heap.size a ∧ NBlk W (w.heap.size + 1) b ∧ NBlk W (w.heap.size + 2) c ∧ Below w.heap.size w W
theorem Thr.after {w W W' : World} {a b c : Nd} (h : Thr w W a b c) (hb : Below W.heap.size W W') : Thr w W' a b c :=
  ⟨h.1.below hb h.1.lt, h.2.1.below hb h.2.1.lt, h.2.2.1.below hb h.2.2.1.lt, h.2.2.2.trans (hb.mono h.2.2.2.size)⟩
theorem Thr.drew {w W : World} {a b c : Nd} (h : Thr w W a b c) : Thr w W.drew a b c := h.after ((Below.refl _ _).drew)

/-- and a fourth one, with a tree that a call made -/
def Four (w W : World) (a b c : Nd) (q : Nat) (y : Nd) : Prop := Thr w W a b c ∧ NBlk W q y ∧ y.In W W.heap.size
theorem Four.after {w W W' : World} {a b c y : Nd} {q : Nat} (h : Four w W a b c q y) (hb : Below W.heap.size W W') : Four w W' a b c q y :=
  ⟨h.1.after hb, h.2.1.below hb h.2.1.lt, h.2.2.below hb hb.size⟩
theorem Four.drew {w W : World} {a b c y : Nd} {q : Nat} (h : Four w W a b c q y) : Four w W.drew a b c q y := h.after ((Below.refl _ _).drew)

theorem Thr.cells {w W : World} {op : Int} {s : ByteArray} {n f t : Int} {A : Option Addr} {c : Nat} {l : List Nd} {op' : Int} {s' : ByteArray} {n' f' t' : Int} {A' : Option Addr} {c' : Nat} {l' : List Nd} {op2 : Int} {s2 : ByteArray} {n2 f2 t2 : Int} {A2 : Option Addr} {c2 : Nat} {l2 : List Nd} (h : Thr w W (.mk op s n f t A c l) (.mk op' s' n' f' t' A' c' l') (.mk op2 s2 n2 f2 t2 A2 c2 l2)) :
    C6 W (w.heap.size) op s n f t (.slice A l.length c) ∧ C6 W (w.heap.size + 1) op' s' n' f' t' (.slice A' l'.length c') ∧ C6 W (w.heap.size + 2) op2 s2 n2 f2 t2 (.slice A2 l2.length c2) := ⟨h.1.cells, h.2.1.cells, h.2.2.1.cells⟩
theorem Four.cells {w W : World} {q : Nat} {op : Int} {s : ByteArray} {n f t : Int} {A : Option Addr} {c : Nat} {l : List Nd} {op' : Int} {s' : ByteArray} {n' f' t' : Int} {A' : Option Addr} {c' : Nat} {l' : List Nd} {op2 : Int} {s2 : ByteArray} {n2 f2 t2 : Int} {A2 : Option Addr} {c2 : Nat} {l2 : List Nd} {opy : Int} {sy : ByteArray} {ny fy ty : Int} {Ay : Option Addr} {cy : Nat} {ly : List Nd} (h : Four w W (.mk op s n f t A c l) (.mk op' s' n' f' t' A' c' l') (.mk op2 s2 n2 f2 t2 A2 c2 l2) q (.mk opy sy ny fy ty Ay cy ly)) :
    C6 W (w.heap.size) op s n f t (.slice A l.length c) ∧ C6 W (w.heap.size + 1) op' s' n' f' t' (.slice A' l'.length c') ∧ C6 W (w.heap.size + 2) op2 s2 n2 f2 t2 (.slice A2 l2.length c2) ∧ C6 W (q) opy sy ny fy ty (.slice Ay ly.length cy) := ⟨h.1.1.cells, h.1.2.1.cells, h.1.2.2.1.cells, h.2.1.cells⟩

theorem alk_refl (k : Nat) (a : Nd) : alk k a a = true := alk_iff.2 rfl
theorem alk_symm (k : Nat) (a b : Nd) : alk k b a = alk k a b := by rw [Bool.eq_iff_iff, alk_iff, alk_iff]; exact ⟨Eq.symm, Eq.symm⟩
theorem alk_trans {k : Nat} {a b c : Nd} (h1 : alk k a b = true) (h2 : alk k b c = true) : alk k a c = true := alk_iff.2 ((alk_iff.1 h1).trans (alk_iff.1 h2))
theorem alk_plain {k : Nat} {a y : Nd} (h : y.er = plainT k a.er) : alk k a y = true := alk_iff.2 (by rw [h, plainT_plain])
theorem eqn_plain {k : Nat} {a y y2 : Nd} (h : y.er = plainT k a.er) (h2 : y2.er = plainT k y.er) : eqn y y2 = true := eqn_iff.2 (by rw [h2, h, plainT_plain])
theorem eqn_alk {k : Nat} {a b y y3 : Nd} (h : y.er = plainT k a.er) (h3 : y3.er = plainT k b.er) : eqn y y3 = alk k a b := by rw [Bool.eq_iff_iff, eqn_iff, alk_iff, h, h3]

end Go.Proofs.Ytcndfihcjaoifaa
