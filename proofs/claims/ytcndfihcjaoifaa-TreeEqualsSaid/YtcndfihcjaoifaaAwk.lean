/- tree.Size of a node without parts; smockinglaw06's awake. -/
import Derived.Test.YtcndfihcjaoifaaAlkT
import Derived.RangeFuncNested
import Derived.RangeFuncBound
import Derived.RangeFuncCalls
import Derived.RangeFuncLeaves
import Derived.RangeFuncBox
import Derived.RangeFuncWrites
import Derived.Shelf.Abstract
import Derived.Shelf.RegionOpen
import Derived.OwnWalkIn
import Derived.TacticsInMore
import Derived.LoopNIn
import Derived.LoopIn
import Derived.Maps.AppendAt

namespace Go.Proofs.Ytcndfihcjaoifaa
open Go.RowKit Go.Maps Go.Shelf

set_option maxHeartbeats 1000000 in
theorem preorder_in (n : Nat) (w : World) (op : Int) (s : ByteArray) (nn f t : Int) (A : Option Addr) (c k : Nat) :
    CallsIn Fence.wide n Try.prog 36 #[.agg #[.int .i64 op, .string s, .int .i64 nn, .int .i64 f, .int .i64 t, .slice A k c]] w fun e w' => e = .returned (.func (.func 56) #[] #[.pointer (some ⟨w.heap.size, 0, none⟩)]) ∧ w' = w.alloc (.cells #[.int .i64 op, .string s, .int .i64 nn, .int .i64 f, .int .i64 t, .slice A k c] 24) := by
  refine callsIn_of_wp Try.func36 rfl trivial ?_ rfl
  simp only [Try.ntmps36, List.size_toArray, List.length_cons, List.length_nil, Nat.reduceAdd, Nat.reduceSub, Array.replicate_succ, Array.replicate_zero, List.push_toArray, List.append_toArray, List.nil_append, List.cons_append]
  gi_wp2
  go_ret
  exact ⟨rfl, rfl⟩

theorem blk_own {W W' : World} {b : Nat} {t : TypeId} {vs : Array Value} {row : Option Nat} (h : Blk W b t vs) (hg : W.grownBy W' row) (hr : ∀ r, row = some r → ∃ o : Obj, W.heap[r]? = some o ∧ o.isCells = false) : Blk W' b t vs :=
  h.kept hg (fun e => by obtain ⟨o, ho, hc⟩ := hr b e.symm; rw [show W.heap[b]? = _ from h] at ho; cases ho; simp [Obj.isCells] at hc)

/-- what a round keeps of what the sequence has made: all cells from block B on -/
def KpC (B : Nat) (W W' : World) : Prop := W.heap.size ≤ W'.heap.size ∧ ∀ (b : Nat) (vs : Array Value) (t : TypeId) (fr : Nat × Nat), B ≤ b → W.heap[b]? = some (.cells vs t fr) → W'.heap[b]? = some (.cells vs t fr)
theorem KpC.trans {B : Nat} {W W' W2 : World} (h : KpC B W W') (k : KpC B W' W2) : KpC B W W2 := ⟨Nat.le_trans h.1 k.1, fun b vs t fr hb hw => k.2 b vs t fr hb (h.2 b vs t fr hb hw)⟩
theorem KpC.putObj {B : Nat} (W : World) (l : Nat) (o o' : Obj) (ho : W.heap[l]? = some o) (hc : o.isCells = false) : KpC B W (W.putObj l o') := by
  refine ⟨(grownBy_putObj' W l o').size, fun b vs t fr _ hw => ?_⟩
  rw [World.putObj_heap_other (fun e => by subst e; rw [ho] at hw; cases hw; simp [Obj.isCells] at hc)]
  exact hw
theorem KpC.set {B : Nat} (W : World) (b j : Nat) (v : Value) (h : b < B) : KpC B W (W.setCell ⟨b, j, none⟩ v) := by
  have hg := grownBy_setCellJ W b j v
  exact ⟨hg.size, fun b' vs t fr hb hw => (hg.block b' (Array.getElem?_eq_some_iff.1 hw).1 (fun e => by injection e with e; omega)).trans hw⟩

/-- at the wide fence a round may stand at any depth -/
theorem yield_any_depth {m k : Nat} {P : Program} {l : Nat} {args : Array Value} {W : World} {R : Ending → World → Prop} (h : YieldAt Fence.wide m P l args W R) : YieldAt Fence.wide k P l args W R := by
  obtain ⟨fn, tmps, assign, body, hy, hR⟩ := h
  refine ⟨fn, tmps, assign, body, hy, hR.1, fun c cs _ => hR.2 c cs ?_⟩
  intro d hd
  simp [Fence.wide] at hd

/-- what a walk over a node without parts hands on -/
def encLeaf (op : Int) (s : ByteArray) (nn f t : Int) (A : Option Addr) (c : Nat) : Unit → Array Value := fun _ => #[.slice none 0 0, .agg #[.int .i64 op, .string s, .int .i64 nn, .int .i64 f, .int .i64 t, .slice A 0 c]]

set_option maxRecDepth 100000 in
set_option maxHeartbeats 1000000 in
theorem walkLeaf_in (n l : Nat) (op : Int) (s : ByteArray) (nn f t : Int) (A : Option Addr) (c : Nat) (J Jx : List Unit → World → Prop) (W : World)
    (B : Nat) (hBW : B ≤ W.heap.size) (hJ : ∀ W' o, J [] W' → J [] (W'.alloc o))
    (hY : ∀ pre x W, J pre W → pre.length < 1 → YieldAt Fence.wide (n - 1) Try.prog l (encLeaf op s nn f t A c x) W fun e W' =>
      (e = .returned (.bool true) ∧ J (pre ++ [x]) W' ∧ KpC B W W') ∨ (e = .returned (.bool false) ∧ Jx (pre ++ [x]) W'))
    (h0 : J [] W) :
    CallsIn Fence.wide n Try.prog 57 #[.agg #[.int .i64 op, .string s, .int .i64 nn, .int .i64 f, .int .i64 t, .slice A 0 c], .slice none 0 0, .func (.yield l) #[] #[]] W fun e W' =>
      (e = .returned (.bool true) ∧ J [()] W') ∨ (e = .returned (.bool false) ∧ Jx [()] W') := by
  refine callsIn_of_wp Try.func57 rfl trivial ?_ rfl
  simp only [Try.ntmps57, List.size_toArray, List.length_cons, List.length_nil, Nat.reduceAdd, Nat.reduceSub, Array.replicate_succ, Array.replicate_zero, List.push_toArray, List.append_toArray, List.nil_append, List.cons_append]
  have h1 := hJ _ (.cells #[.int .i64 op, .string s, .int .i64 nn, .int .i64 f, .int .i64 t, .slice A 0 c] 24) h0
  obtain ⟨fn, tmps, assign, body, hy, hR⟩ := hY [] () _ h1 (by simp)
  unfold encLeaf at hy
  have HR := Lib.hid hR
  clear hR hY hJ h1 h0
  gi_wp2
  refine ⟨by simp [Fence.wide], HR.out.mono ?_⟩
  rintro e W3 (⟨rfl, hJ3, hb3⟩ | ⟨rfl, hJx3⟩)
  · have b0 : NBlk W3 W.heap.size (.mk op s nn f t A c []) := hb3.2 _ _ _ _ hBW (NBlk.new W op s nn f t A c [])
    obtain ⟨c0, c1, c2, c3, c4, c5⟩ := b0.cells
    simp only [List.length_nil] at c5
    have HB := Lib.hid b0
    clear b0 hb3 HR
    gi_wp2
    gi_loopw [17] (fun i wr => i = .int .i64 0 ∧ wr = W3) (fun _ _ => 0)
    case atStart => exact ⟨rfl, rfl⟩
    case round =>
      obtain ⟨rfl, rfl⟩ := hrel
      gi_wp2
      go_ret
      exact .inl ⟨rfl, hJ3⟩
  · gi_wp2
    go_ret
    exact .inr ⟨rfl, hJx3⟩

set_option maxRecDepth 100000 in
set_option maxHeartbeats 1000000 in
theorem leaf_stops (n Bs : Nat) (op : Int) (s : ByteArray) (nn f t : Int) (A : Option Addr) (c : Nat) (w : World) (hB : NBlk w Bs (.mk op s nn f t A c [])) :
    SeqStopsK Fence.wide n Try.prog 56 #[.pointer (some ⟨Bs, 0, none⟩)] (encLeaf op s nn f t A c) (KpC w.heap.size) (fun ys => ys = [()]) (fun _ => True) 1 w := fun l J Jx W hW hJ _ hY h0 => by
  obtain ⟨c0, c1, c2, c3, c4, c5⟩ := (hB.below hW hB.lt).cells
  simp only [List.length_nil] at c5
  have hw := fun m => walkLeaf_in m l op s nn f t A c J Jx W w.heap.size hW.size (fun W' o h => hJ _ _ _ _ h (World.grownBy_alloc W' o none) (fun r e => by cases e))
  have HW := Lib.hid hw
  have HY := Lib.hid hY
  clear hw hY
  refine callsIn_of_wp Try.func56 rfl trivial ?_ rfl
  simp only [Try.ntmps56, List.size_toArray, List.length_cons, List.length_nil, Nat.reduceAdd, Nat.reduceSub, Array.replicate_succ, Array.replicate_zero, List.push_toArray, List.append_toArray, List.nil_append, List.cons_append]
  gi_wp2
  refine ⟨trivial, by simp [Fence.wide], (HW.out _ (fun pre x W1 h1 h2 => yield_any_depth (HY.out pre x W1 h1 h2)) h0).mono ?_⟩
  rintro e W3 (⟨rfl, hJ3⟩ | ⟨rfl, hJx3⟩)
  · gi_wp2
    go_end0
    exact ⟨⟨_, rfl⟩, .inl ⟨_, rfl, hJ3⟩⟩
  · gi_wp2
    go_end0
    exact ⟨⟨_, rfl⟩, .inr ⟨_, trivial, hJx3⟩⟩

attribute [local go_sem] Oper.semAt_some

set_option maxRecDepth 100000 in
set_option maxHeartbeats 1000000 in
theorem sizeLeaf_in (n : Nat) (hn : 3 ≤ n) (op : Int) (s : ByteArray) (nn f t : Int) (A : Option Addr) (c : Nat) (w : World) :
    CallsIn Fence.wide n Try.prog 30 #[.agg #[.int .i64 op, .string s, .int .i64 nn, .int .i64 f, .int .i64 t, .slice A 0 c]] w fun e w' => e = .returned (.int .i64 1) ∧ Below w.heap.size w w' := by
  have h1 : 1 ≤ n := by omega
  refine callsIn_of_wp_marks Try.func30 rfl trivial ?_ rfl
  simp only [Try.ntmps30, List.size_toArray, List.length_cons, List.length_nil, Nat.reduceAdd, Nat.reduceSub, Array.replicate_succ, Array.replicate_zero, List.push_toArray, List.append_toArray, List.nil_append, List.cons_append]
  gi_wp2
  refine ⟨trivial, (preorder_in (n - 1) _ op s nn f t A c 0).mono ?_⟩
  obtain ⟨W1, hW1⟩ : ∃ W1, W1 = ((w.alloc (.cells #[.int .i64 op, .string s, .int .i64 nn, .int .i64 f, .int .i64 t, .slice A 0 c] 24)).alloc (.cells #[.int .i64 0] 3)).alloc (.cells #[.int .i64 op, .string s, .int .i64 nn, .int .i64 f, .int .i64 t, .slice A 0 c] 24) := ⟨_, rfl⟩
  have hsz : W1.heap.size = w.heap.size + 3 := by rw [hW1]; simp
  have F2 : Blk W1 (w.heap.size + 1) 3 #[.int .i64 0] := by
    have := Blk.new (w.alloc (.cells #[.int .i64 op, .string s, .int .i64 nn, .int .i64 f, .int .i64 t, .slice A 0 c] 24)) 3 #[.int .i64 0]
    rw [show (w.alloc (.cells #[.int .i64 op, .string s, .int .i64 nn, .int .i64 f, .int .i64 t, .slice A 0 c] 24)).heap.size = w.heap.size + 1 by simp] at this
    rw [hW1]
    exact this.alloc _
  have F3 : NBlk W1 (w.heap.size + 2) (.mk op s nn f t A c []) := by
    have := NBlk.new ((w.alloc (.cells #[.int .i64 op, .string s, .int .i64 nn, .int .i64 f, .int .i64 t, .slice A 0 c] 24)).alloc (.cells #[.int .i64 0] 3)) op s nn f t A c []
    rw [show ((w.alloc (.cells #[.int .i64 op, .string s, .int .i64 nn, .int .i64 f, .int .i64 t, .slice A 0 c] 24)).alloc (.cells #[.int .i64 0] 3)).heap.size = w.heap.size + 2 by simp] at this
    rw [hW1]
    exact this
  have F5 : Below w.heap.size w W1 := by rw [hW1]; exact (((Below.refl _ _).alloc (Nat.le_refl _) _).alloc (by simp) _).alloc (by simp; omega) _
  rintro e w' ⟨rfl, hw'⟩
  rw [hw']
  clear hw'
  have hW1' : ((w.alloc (.cells #[.int .i64 op, .string s, .int .i64 nn, .int .i64 f, .int .i64 t, .slice A 0 c] 24)).alloc (.cells #[.int .i64 0] 3)).alloc (.cells #[.int .i64 op, .string s, .int .i64 nn, .int .i64 f, .int .i64 t, .slice A 0 c] 24) = W1 := hW1.symm
  rw [hW1']
  clear hW1 hW1'
  gi_wp2
  refine wpIn_rangeFunc_ownH rfl h1 (gf := 56) (lb := #[.pointer (some ⟨w.heap.size + 1 + 1, 0, none⟩)]) rfl trivial (enters_of Try.func56 (by kernel_rfl) rfl)
    (leaf_stops (n - 1) (w.heap.size + 2) op s nn f t A c W1 F3) KpC.trans (fun W l o o' _ ho hc _ => KpC.putObj W l o o' ho hc) (Below.refl _ _) (fun _ => rfl)
    (fun pre W => Blk W (w.heap.size + 1) 3 #[.int .i64 (pre.length : Nat)] ∧ Below w.heap.size w W)
    (fun _ _ _ => False)
    (fun pre X Y row hs hg hr => ⟨blk_own hs.1 hg (fun r e => (hr r e).2), hs.2.grown hg (by have := hs.2.size; omega) (fun k e => by have := (hr k e).1; omega)⟩)
    (fun _ _ _ _ _ h _ _ => h)
    ⟨F2, F5⟩
    (fun _ a' _ => a' = { tmps := #[.agg #[.int .i64 op, .string s, .int .i64 nn, .int .i64 f, .int .i64 t, .slice A 0 c], .pointer (some ⟨w.heap.size, 0, none⟩), .int .i64 0, .pointer (some ⟨w.heap.size + 1, 0, none⟩), .agg #[.int .i64 op, .string s, .int .i64 nn, .int .i64 f, .int .i64 t, .slice A 0 c], .func (.func 56) #[] #[.pointer (some ⟨w.heap.size + 1 + 1, 0, none⟩)], .slice none 0 0, .agg #[.int .i64 op, .string s, .int .i64 nn, .int .i64 f, .int .i64 t, .slice A 0 c], undef, undef, undef], defers := [] })
    (fun _ _ _ _ _ _ h _ _ => h)
    ?assign ?body ?done ?stop
  case assign =>
    intro l pre x W K hI hK
    unfold encLeaf
    gi_wp2
    exact hK _ _ (KeepsFrom.refl _ _) ⟨Nat.le_refl _, fun _ _ _ _ _ h => h⟩ hI (by simp)
  case body =>
    rintro l pre x a' W hl ⟨r, hrl⟩ ⟨hI1, hI2⟩ rfl hlen
    have x0 := hI1.cell 0
    have f0 := hI1.frozen 0
    simp at x0
    have H1 := Lib.hid hI1
    have H2 := Lib.hid hI2
    have HSZ := Lib.hid hsz
    have hp : (pre.length : Int) < 1 := by omega
    have hp0 : (0 : Int) ≤ (pre.length : Int) := by omega
    have HPL : Hid ((((pre ++ [x]).length : Nat) : Int) = (pre.length : Int) + 1) := by unfold Hid; simp
    clear hI1 hI2 hsz hlen
    gi_wp2
    refine ⟨(KeepsOthers.setCell _ _ _).from _, KpC.set _ _ _ _ (by have := HSZ.out; omega), ?_, H2.out.setCell (p := ⟨w.heap.size + 1, 0, none⟩) (by simp) _⟩
    rw [HPL.out]
    exact H1.out.set 0 _
  case done =>
    rintro D ys W hD rfl ⟨hI1, hI2⟩ hK
    have x0 := hI1.cell 0
    simp at x0
    have H2 := Lib.hid hI2
    have HD := Lib.hid hD
    have HSZ := Lib.hid hsz
    clear hI1 hI2 hD hsz
    gi_wp2
    refine ⟨by simp, .inl ⟨_, _, rfl, run_takeDeferred hK, ?_⟩⟩
    exact ⟨_, results_tmp rfl _ _ _, rfl, H2.out.trans (belowK_b (w := w) (Nat.le_refl _) W D _ (.deferred none) (by have := HD.out; have := HSZ.out; omega) hK rfl rfl)⟩
  case stop =>
    rintro D cd pre W _ _ h _
    exact h.elim

theorem sizeLeaf_any (op : Int) (s : ByteArray) (nn f t : Int) (A : Option Addr) (c : Nat) (w : World) :
    Calls Try.prog 30 #[.agg #[.int .i64 op, .string s, .int .i64 nn, .int .i64 f, .int .i64 t, .slice A 0 c]] w fun e w' => e = .returned (.int .i64 1) ∧ Below w.heap.size w w' :=
  callsIn_wide.1 (sizeLeaf_in 3 (Nat.le_refl _) op s nn f t A c w)

def aNd : Nd := .mk 50 ⟨#[97]⟩ 0 0 0 none 0 []
def bNd : Nd := .mk 50 ⟨#[98]⟩ 0 0 0 none 0 []
def pNd (B : Nat) : Nd := .mk 54 ⟨#[]⟩ 0 0 0 (some ⟨B, 0, none⟩) 1 [aNd]

theorem alk_pa (B : Nat) : alk 2 (pNd B) aNd = true := by
  rw [alk_iff]
  simp [plainT, pNd, aNd, Nd.er_mk, Tr.bare]
theorem alk_ab : alk 2 aNd bNd = false := by
  rw [Bool.eq_false_iff]
  intro h
  rw [alk_iff] at h
  simp [plainT, bNd, aNd, Nd.er_mk, Tr.bare, Tr.s] at h

theorem leaf_in (w : World) (B : Nat) (op : Int) (s : ByteArray) (n f t : Int) (c : Nat) : (Nd.mk op s n f t none c []).In w B := NdSl.nd ⟨Rd.nil, by simp, by unfold Nd.AllIn; trivial⟩

set_option maxRecDepth 100000 in
set_option maxHeartbeats 1000000 in
theorem awake_any (w : World) : Calls Try.prog 10 #[] w fun e w' => e = .returned (.bool true) ∧ Below w.heap.size w w' := by
  go_enter Try.func10, Try.ntmps10
  go_wp2_with fail
  refine (alike_any 1 (pNd (w.heap.size + 1)) aNd _ rfl rfl ?i1 (leaf_in _ _ _ _ _ _ _ _)).mono ?_
  case i1 =>
    have := NdSl.one (w.alloc (.cells aNd.arr 24)) aNd 24 (leaf_in _ _ _ _ _ _ _ _)
    refine NdSl.nd ?_
    simpa [aNd, Nd.arr] using this
  rintro e w1 ⟨rfl, hb1⟩
  rw [alk_pa]
  have k1 := ((NBlk.new w 50 ⟨#[97]⟩ 0 0 0 none 0 []).alloc _).below hb1 (by simp; omega)
  obtain ⟨c0, c1, c2, c3, c4, c5⟩ := k1.cells
  simp only [List.length_nil] at c5
  have HB1 : Hid (Below w.heap.size w w1) := (((Below.refl _ _).alloc (Nat.le_refl _) _).alloc (by simp) _).trans (hb1.mono (by simp; omega))
  have K1 := Lib.hid k1
  clear hb1 k1
  go_wp2_with fail
  refine (alike_any 1 aNd bNd w1 rfl rfl (leaf_in _ _ _ _ _ _ _ _) (leaf_in _ _ _ _ _ _ _ _)).mono ?_
  rintro e w2 ⟨rfl, hb2⟩
  rw [alk_ab]
  obtain ⟨c0, c1, c2, c3, c4, c5⟩ := (K1.out.below hb2 K1.out.lt).cells
  simp only [List.length_nil] at c5
  have HB2 : Hid (Below w.heap.size w w2) := HB1.out.trans (hb2.mono HB1.out.size)
  clear hb2 K1 HB1
  go_wp2_with fail
  refine (sizeLeaf_any 50 ⟨#[97]⟩ 0 0 0 none 0 w2).mono ?_
  rintro e w3 ⟨rfl, hb3⟩
  have HB3 : Hid (Below w.heap.size w w3) := HB2.out.trans (hb3.mono HB2.out.size)
  clear hb3 HB2
  go_wp2_with fail
  go_ret
  exact ⟨rfl, HB3.out⟩

end Go.Proofs.Ytcndfihcjaoifaa
