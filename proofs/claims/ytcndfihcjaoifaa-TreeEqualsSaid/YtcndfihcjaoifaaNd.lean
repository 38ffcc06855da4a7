/- Trees as they lie in memory: what a node is, its cells, what it is to lie below a block; how many levels a tree has. -/
import Derived.Test.YtcndfihcjaoifaaEd
import Derived.Test.YtcndfihcjaoifaaBlk

namespace Go.Proofs.Ytcndfihcjaoifaa
open Go.RowKit

/-- a node: its label, its places, where the list of its parts lies (address, capacity), its parts -/
inductive Nd where
  | mk (op : Int) (s : ByteArray) (n f t : Int) (A : Option Addr) (c : Nat) (l : List Nd)

def Nd.op : Nd → Int | .mk op _ _ _ _ _ _ _ => op
def Nd.s : Nd → ByteArray | .mk _ s _ _ _ _ _ _ => s
def Nd.n : Nd → Int | .mk _ _ n _ _ _ _ _ => n
def Nd.f : Nd → Int | .mk _ _ _ f _ _ _ _ => f
def Nd.t : Nd → Int | .mk _ _ _ _ t _ _ _ => t
def Nd.A : Nd → Option Addr | .mk _ _ _ _ _ A _ _ => A
def Nd.c : Nd → Nat | .mk _ _ _ _ _ _ c _ => c
def Nd.l : Nd → List Nd | .mk _ _ _ _ _ _ _ l => l

instance : Inhabited Nd := ⟨.mk 0 ByteArray.empty 0 0 0 none 0 []⟩

def Nd.cells : Nd → List Value | .mk op s n f t A c l => [.int .i64 op, .string s, .int .i64 n, .int .i64 f, .int .i64 t, .slice A l.length c]
def Nd.arr : Nd → Array Value | .mk op s n f t A c l => #[.int .i64 op, .string s, .int .i64 n, .int .i64 f, .int .i64 t, .slice A l.length c]
/-- a node as a value -/
def Nd.val (x : Nd) : Value := .agg x.arr

theorem Nd.val_mk (op : Int) (s : ByteArray) (n f t : Int) (A : Option Addr) (c : Nat) (l : List Nd) : (Nd.mk op s n f t A c l).val = .agg #[.int .i64 op, .string s, .int .i64 n, .int .i64 f, .int .i64 t, .slice A l.length c] := rfl

def cellsN (l : List Nd) : List Value := l.flatMap Nd.cells

theorem Nd.cells_length (x : Nd) : x.cells.length = 6 := by cases x; rfl

theorem cellsN_length (l : List Nd) : (cellsN l).length = l.length * 6 := by
  induction l with
  | nil => rfl
  | cons x l ih => simp [cellsN, Nd.cells_length] at ih ⊢; omega

theorem cellsN_append (l r : List Nd) : cellsN (l ++ r) = cellsN l ++ cellsN r := by simp [cellsN]

theorem cellsN_get : ∀ (l : List Nd) (i : Nat) (h : i < l.length) (j : Nat), j < 6 → (cellsN l)[i * 6 + j]? = l[i].cells[j]?
  | [], _, h, _, _ => by simp at h
  | x :: l, 0, _, j, hj => by
    show (x.cells ++ cellsN l)[0 * 6 + j]? = _
    rw [List.getElem?_append_left (by rw [Nd.cells_length]; omega)]
    simp
  | x :: l, i + 1, h, j, hj => by
    show (x.cells ++ cellsN l)[(i + 1) * 6 + j]? = _
    rw [List.getElem?_append_right (by rw [Nd.cells_length]; omega), Nd.cells_length, show (i + 1) * 6 + j - 6 = i * 6 + j by omega]
    exact cellsN_get l i (by simpa using h) j hj

theorem cellsN_one {l : List Nd} {u : Value} (h : u ∈ cellsN l) : u.oneCell' = true := by
  obtain ⟨x, _, hx⟩ := List.mem_flatMap.1 h
  cases x
  simp [Nd.cells] at hx
  rcases hx with rfl | rfl | rfl | rfl | rfl | rfl <;> rfl

mutual
/-- the lists of parts of a tree lie below block B; they and the texts are not too long -/
def Nd.In (w : World) (B : Nat) : Nd → Prop
  | .mk _ _ _ _ _ A _ l => Rd w B A (cellsN l) ∧ l.length ≤ 9223372036854775807 ∧ Nd.AllIn w B l
def Nd.AllIn (w : World) (B : Nat) : List Nd → Prop
  | [] => True
  | x :: l => Nd.In w B x ∧ Nd.AllIn w B l
end

mutual
theorem Nd.In.keep {w w' : World} {B B' : Nat} (hk : ∀ b o, b < B → w'.cell? ⟨b, o, none⟩ = w.cell? ⟨b, o, none⟩) (hB : B ≤ B') : ∀ (x : Nd), x.In w B → x.In w' B'
  | .mk _ _ _ _ _ _ _ l, h => by
    unfold Nd.In at h ⊢
    exact ⟨(h.1.keep hk).more hB, h.2.1, Nd.AllIn.keep hk hB l h.2.2⟩
theorem Nd.AllIn.keep {w w' : World} {B B' : Nat} (hk : ∀ b o, b < B → w'.cell? ⟨b, o, none⟩ = w.cell? ⟨b, o, none⟩) (hB : B ≤ B') : ∀ (l : List Nd), Nd.AllIn w B l → Nd.AllIn w' B' l
  | [], _ => by unfold Nd.AllIn; trivial
  | x :: l, h => by
    unfold Nd.AllIn at h ⊢
    exact ⟨Nd.In.keep hk hB x h.1, Nd.AllIn.keep hk hB l h.2⟩
end

theorem Nd.In.below {w w' : World} {B B' : Nat} {x : Nd} (h : x.In w B) (hb : Below B w w') (hB : B ≤ B') : x.In w' B' := Nd.In.keep (fun b o h => hb.cell (p := ⟨b, o, none⟩) h) hB x h
theorem Nd.AllIn.below {w w' : World} {B B' : Nat} {l : List Nd} (h : Nd.AllIn w B l) (hb : Below B w w') (hB : B ≤ B') : Nd.AllIn w' B' l := Nd.AllIn.keep (fun b o h => hb.cell (p := ⟨b, o, none⟩) h) hB l h

theorem Nd.AllIn.mem {w : World} {B : Nat} : ∀ {l : List Nd}, Nd.AllIn w B l → ∀ x ∈ l, x.In w B
  | [], _, _, h => by simp at h
  | x :: l, h, y, hy => by
    unfold Nd.AllIn at h
    rcases List.mem_cons.1 hy with rfl | hy
    · exact h.1
    · exact h.2.mem y hy

theorem Nd.AllIn.of {w : World} {B : Nat} : ∀ {l : List Nd}, (∀ x ∈ l, x.In w B) → Nd.AllIn w B l
  | [], _ => by unfold Nd.AllIn; trivial
  | x :: l, h => by
    unfold Nd.AllIn
    exact ⟨h x (by simp), Nd.AllIn.of fun y hy => h y (by simp [hy])⟩

/-- a list of trees: its own cells, and each of them -/
def NdSl (w : World) (B : Nat) (A : Option Addr) (l : List Nd) : Prop := Rd w B A (cellsN l) ∧ l.length ≤ 9223372036854775807 ∧ Nd.AllIn w B l

theorem NdSl.below {w w' : World} {B B' : Nat} {A : Option Addr} {l : List Nd} (h : NdSl w B A l) (hb : Below B w w') (hB : B ≤ B') : NdSl w' B' A l := ⟨(h.1.below hb).more hB, h.2.1, h.2.2.below hb hB⟩
theorem Nd.In.sl {w : World} {B : Nat} {op : Int} {s : ByteArray} {n f t : Int} {A : Option Addr} {c : Nat} {l : List Nd} (h : (Nd.mk op s n f t A c l).In w B) : NdSl w B A l := by unfold Nd.In at h; exact h
theorem NdSl.nd {w : World} {B : Nat} {op : Int} {s : ByteArray} {n f t : Int} {A : Option Addr} {c : Nat} {l : List Nd} (h : NdSl w B A l) : (Nd.mk op s n f t A c l).In w B := by unfold Nd.In; exact h

/-- the cells of the node at a place of a list -/
theorem NdSl.at_ {w : World} {B : Nat} {A : Option Addr} {l : List Nd} (h : NdSl w B A l) (i : Nat) (hi : i < l.length) :
    ∃ b off, A = some ⟨b, off, none⟩ ∧ b < B ∧ w.cell? ⟨b, off + i * 6, none⟩ = some (.int .i64 l[i].op) ∧ w.cell? ⟨b, off + i * 6 + 1, none⟩ = some (.string l[i].s) ∧ w.cell? ⟨b, off + i * 6 + 2, none⟩ = some (.int .i64 l[i].n)
      ∧ w.cell? ⟨b, off + i * 6 + 3, none⟩ = some (.int .i64 l[i].f) ∧ w.cell? ⟨b, off + i * 6 + 4, none⟩ = some (.int .i64 l[i].t) ∧ w.cell? ⟨b, off + i * 6 + 5, none⟩ = some (.slice l[i].A l[i].l.length l[i].c) ∧ l[i].In w B := by
  obtain ⟨b, off, e, hB, hc⟩ := h.1 (by rw [cellsN_length]; omega)
  have g := cellsN_get l i hi
  have hin := h.2.2.mem l[i] (List.getElem_mem _)
  generalize l[i] = x at *
  obtain ⟨op, s, n, f, t, A', c, l'⟩ := x
  refine ⟨b, off, e, hB, ?_, ?_, ?_, ?_, ?_, ?_, hin⟩
  · exact hc (i * 6 + 0) _ (g 0 (by omega))
  · have := hc (i * 6 + 1) _ (g 1 (by omega)); rwa [← Nat.add_assoc] at this
  · have := hc (i * 6 + 2) _ (g 2 (by omega)); rwa [← Nat.add_assoc] at this
  · have := hc (i * 6 + 3) _ (g 3 (by omega)); rwa [← Nat.add_assoc] at this
  · have := hc (i * 6 + 4) _ (g 4 (by omega)); rwa [← Nat.add_assoc] at this
  · have := hc (i * 6 + 5) _ (g 5 (by omega)); rwa [← Nat.add_assoc] at this

/-- block B holds the six cells of a node -/
def NBlk (w : World) (B : Nat) (x : Nd) : Prop := Blk w B 24 x.arr

theorem NBlk.cells {w : World} {B : Nat} {op : Int} {s : ByteArray} {n f t : Int} {A : Option Addr} {c : Nat} {l : List Nd} (h : NBlk w B (.mk op s n f t A c l)) :
    w.cell? ⟨B, 0, none⟩ = some (.int .i64 op) ∧ w.cell? ⟨B, 1, none⟩ = some (.string s) ∧ w.cell? ⟨B, 2, none⟩ = some (.int .i64 n) ∧ w.cell? ⟨B, 3, none⟩ = some (.int .i64 f) ∧ w.cell? ⟨B, 4, none⟩ = some (.int .i64 t) ∧ w.cell? ⟨B, 5, none⟩ = some (.slice A l.length c) :=
  ⟨h.cell 0, h.cell 1, h.cell 2, h.cell 3, h.cell 4, h.cell 5⟩
theorem NBlk.free {w : World} {B : Nat} {x : Nd} (h : NBlk w B x) :
    w.frozen? ⟨B, 0, none⟩ = false ∧ w.frozen? ⟨B, 1, none⟩ = false ∧ w.frozen? ⟨B, 2, none⟩ = false ∧ w.frozen? ⟨B, 3, none⟩ = false ∧ w.frozen? ⟨B, 4, none⟩ = false ∧ w.frozen? ⟨B, 5, none⟩ = false :=
  ⟨h.frozen 0, h.frozen 1, h.frozen 2, h.frozen 3, h.frozen 4, h.frozen 5⟩
theorem NBlk.put {w : World} {B : Nat} {x : Nd} (h : NBlk w B x) {op : Int} {s : ByteArray} {n f t : Int} {A : Option Addr} {c : Nat} {l : List Nd} {k : Nat} (hk : k = l.length) :
    NBlk ((((((w.setCell ⟨B, 0, none⟩ (.int .i64 op)).setCell ⟨B, 1, none⟩ (.string s)).setCell ⟨B, 2, none⟩ (.int .i64 n)).setCell ⟨B, 3, none⟩ (.int .i64 f)).setCell ⟨B, 4, none⟩ (.int .i64 t)).setCell ⟨B, 5, none⟩ (.slice A k c)) B (.mk op s n f t A c l) := by
  subst hk
  cases x
  have := ((((((Blk.set h 0 (.int .i64 op)).set 1 (.string s)).set 2 (.int .i64 n)).set 3 (.int .i64 f)).set 4 (.int .i64 t)).set 5 (.slice A l.length c))
  simpa [NBlk, Nd.arr] using this
theorem NBlk.new (w : World) (op : Int) (s : ByteArray) (n f t : Int) (A : Option Addr) (c : Nat) (l : List Nd) :
    NBlk (w.alloc (.cells #[.int .i64 op, .string s, .int .i64 n, .int .i64 f, .int .i64 t, .slice A l.length c] 24)) w.heap.size (.mk op s n f t A c l) := Blk.new w _ _
theorem NBlk.alloc {w : World} {B : Nat} {x : Nd} (h : NBlk w B x) (o : Obj) : NBlk (w.alloc o) B x := Blk.alloc h o
theorem NBlk.other {w : World} {B : Nat} {x : Nd} (h : NBlk w B x) {a : Addr} (hne : B ≠ a.block) (v : Value) : NBlk (w.setCell a v) B x := Blk.other h hne v
theorem NBlk.others {w : World} {B B' : Nat} {x : Nd} (h : NBlk w B x) (hne : B ≠ B') (v0 v1 v2 v3 v4 v5 : Value) :
    NBlk ((((((w.setCell ⟨B', 0, none⟩ v0).setCell ⟨B', 1, none⟩ v1).setCell ⟨B', 2, none⟩ v2).setCell ⟨B', 3, none⟩ v3).setCell ⟨B', 4, none⟩ v4).setCell ⟨B', 5, none⟩ v5) B x :=
  (((((h.other hne _).other hne _).other hne _).other hne _).other hne _).other hne _
theorem NBlk.below {w w' : World} {B B0 : Nat} {x : Nd} (h : NBlk w B x) (hb : Below B0 w w') (hlt : B < B0) : NBlk w' B x := Blk.below h hb hlt
theorem NBlk.kept {w w' : World} {row : Option Nat} {B : Nat} {x : Nd} (h : NBlk w B x) (hg : w.grownBy w' row) (hne : some B ≠ row) : NBlk w' B x := Blk.kept h hg hne
theorem NBlk.lt {w : World} {B : Nat} {x : Nd} (h : NBlk w B x) : B < w.heap.size := Blk.lt h
theorem NBlk.all {w : World} {B : Nat} {op : Int} {s : ByteArray} {n f t : Int} {A : Option Addr} {c : Nat} {l : List Nd} (h : NBlk w B (.mk op s n f t A c l)) :
    (w.cell? ⟨B, 0, none⟩ = some (.int .i64 op) ∧ w.cell? ⟨B, 1, none⟩ = some (.string s) ∧ w.cell? ⟨B, 2, none⟩ = some (.int .i64 n) ∧ w.cell? ⟨B, 3, none⟩ = some (.int .i64 f) ∧ w.cell? ⟨B, 4, none⟩ = some (.int .i64 t) ∧ w.cell? ⟨B, 5, none⟩ = some (.slice A l.length c)) ∧
    (w.frozen? ⟨B, 0, none⟩ = false ∧ w.frozen? ⟨B, 1, none⟩ = false ∧ w.frozen? ⟨B, 2, none⟩ = false ∧ w.frozen? ⟨B, 3, none⟩ = false ∧ w.frozen? ⟨B, 4, none⟩ = false ∧ w.frozen? ⟨B, 5, none⟩ = false) := ⟨h.cells, h.free⟩
theorem below_six {B0 : Nat} {w w' : World} (h : Below B0 w w') {B : Nat} (hle : B0 ≤ B) (v0 v1 v2 v3 v4 v5 : Value) :
    Below B0 w ((((((w'.setCell ⟨B, 0, none⟩ v0).setCell ⟨B, 1, none⟩ v1).setCell ⟨B, 2, none⟩ v2).setCell ⟨B, 3, none⟩ v3).setCell ⟨B, 4, none⟩ v4).setCell ⟨B, 5, none⟩ v5) :=
  (((((h.setCell (p := ⟨B, 0, none⟩) hle _).setCell (p := ⟨B, 1, none⟩) hle _).setCell (p := ⟨B, 2, none⟩) hle _).setCell (p := ⟨B, 3, none⟩) hle _).setCell (p := ⟨B, 4, none⟩) hle _).setCell (p := ⟨B, 5, none⟩) hle _

theorem Nd.arr_get (x : Nd) (j : Nat) : x.arr[j]? = x.cells[j]? := by cases x; simp [Nd.arr, Nd.cells]

/-- a list of one tree, in a block of its own -/
theorem NdSl.one (w : World) (x : Nd) (T : TypeId) (h : x.In w w.heap.size) : NdSl (w.alloc (.cells x.arr T)) (w.heap.size + 1) (some ⟨w.heap.size, 0, none⟩) [x] := by
  refine ⟨fun _ => ⟨w.heap.size, 0, rfl, by omega, fun j u hu => ?_⟩, by simp, ?_⟩
  · rw [Nat.zero_add, (Blk.new w T x.arr).cell j, Nd.arr_get]
    simpa [cellsN] using hu
  · unfold Nd.AllIn
    refine ⟨h.below ((Below.refl _ _).alloc (Nat.le_refl _) _) (by omega), ?_⟩
    unfold Nd.AllIn; trivial

/-- whether trees have more than so many levels -/
def deepB : Nat → List Nd → Bool
  | 0, l => !l.isEmpty
  | k + 1, l => l.any fun x => deepB k x.l

theorem deepB_part {k : Nat} {l : List Nd} (h : deepB (k + 1) l = false) (x : Nd) (hx : x ∈ l) : deepB k x.l = false := by
  rw [deepB, List.any_eq_false] at h
  simpa using h x hx

theorem deepB_nil {l : List Nd} (h : deepB 0 l = false) : l = [] := by simpa [deepB] using h

mutual
/-- how many nodes a tree has -/
def Nd.cnt : Nd → Nat
  | .mk _ _ _ _ _ _ _ l => 1 + cntL l
def cntL : List Nd → Nat
  | [] => 0
  | x :: l => x.cnt + cntL l
end

theorem cntL_append : ∀ (l r : List Nd), cntL (l ++ r) = cntL l + cntL r
  | [], r => by simp [cntL]
  | x :: l, r => by simp only [List.cons_append, cntL, cntL_append l r]; omega

theorem cntL_take (l : List Nd) (k : Nat) (h : k < l.length) : cntL (l.take (k + 1)) = cntL (l.take k) + 1 + cntL l[k].l := by
  rw [List.take_succ_eq_append_getElem h, cntL_append]
  generalize l[k] = x
  obtain ⟨op, s, n, f, t, A', c, l'⟩ := x
  simp only [cntL, Nd.cnt, Nd.l]
  omega

theorem cntL_length : ∀ (l : List Nd), l.length ≤ cntL l
  | [] => by simp [cntL]
  | x :: l => by
    have := cntL_length l
    have h1 : 1 ≤ x.cnt := by cases x; simp only [Nd.cnt]; omega
    simp only [cntL, List.length_cons]
    omega

end Go.Proofs.Ytcndfihcjaoifaa
