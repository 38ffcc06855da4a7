/- Macro: all definitions of a list of tokens; the program's Defs. slices.Backward over tokens: its sequence. Macro: the program's find. -/
import Derived.Test.YtjdpkhjoecfhlaaGreatDoorMacH
import Derived.Test.YtjdpkhjoecfhlaaGreatDoorTz
import Derived.RangeFuncNested
import Derived.RangeFuncBound
import Derived.RangeFuncCalls
import Derived.RangeFuncLeaves
import Derived.RangeFuncBox
import Derived.RangeFuncWrites
import Derived.Shelf.Abstract
import Derived.Shelf.RegionOpen
import Derived.OwnWalkIn
import Derived.TacticsInMore
import Derived.LoopNIn
import Derived.LoopIn
import Derived.Maps.AppendAt

namespace Go.Proofs.YtjdpkhjoecfhlaaGreatDoor
open Go.RowKit Go.Maps Go.Shelf

/-- the definitions, with their places -/
def defsF : Nat → List Tz → List (Nat × Dfn)
  | _, [] => []
  | i, t :: r => (match dfnB t.k t.x with | some d => [(i, d)] | none => []) ++ defsF (i + 1) r
theorem defsF_append : ∀ (i : Nat) (a b : List Tz), defsF i (a ++ b) = defsF i a ++ defsF (i + a.length) b
  | i, [], b => by simp [defsF]
  | i, t :: a, b => by
    have ih := defsF_append (i + 1) a b
    simp only [List.cons_append, defsF, ih, List.append_assoc, List.length_cons]
    rw [show i + 1 + a.length = i + (a.length + 1) by omega]
theorem defsF_take (l : List Tz) (k : Nat) (hk : k < l.length) : defsF 0 (l.take (k + 1)) = defsF 0 (l.take k) ++ (match dfnB l[k].k l[k].x with | some d => [(k, d)] | none => []) := by
  rw [List.take_succ_eq_append_getElem hk, defsF_append]
  simp only [defsF, List.length_take, List.append_nil, Nat.zero_add]
  rw [Nat.min_eq_left (by omega)]
theorem defsF_len : ∀ (i : Nat) (l : List Tz), (defsF i l).length ≤ l.length
  | _, [] => Nat.le_refl _
  | i, t :: r => by
    have ih := defsF_len (i + 1) r
    simp only [defsF, List.length_append, List.length_cons]
    cases dfnB t.k t.x <;> simp <;> omega
/-- a definition in memory, with the value that its parameters are -/
def cellM (e : (Nat × Dfn) × Value) : List Value := [.string e.1.2.nm, .int .i64 (e.1.1 : Nat), e.2, .bool e.1.2.fn, .string (bodyB e.1.2), .bool e.1.2.gone]
def cellsM (es : List ((Nat × Dfn) × Value)) : List Value := es.flatMap cellM
theorem cellsM_append (a b : List ((Nat × Dfn) × Value)) : cellsM (a ++ b) = cellsM a ++ cellsM b := by simp [cellsM]
theorem cellsM_length (l : List ((Nat × Dfn) × Value)) : (cellsM l).length = l.length * 6 := by
  induction l with
  | nil => rfl
  | cons x l ih => simp [cellsM, cellM] at ih ⊢; omega
theorem cellsM_get : ∀ (l : List ((Nat × Dfn) × Value)) (i : Nat) (h : i < l.length) (j : Nat), j < 6 → (cellsM l)[i * 6 + j]? = (cellM l[i])[j]?
  | [], _, h, _, _ => by simp at h
  | x :: l, 0, _, j, hj => by
    show (cellM x ++ cellsM l)[0 * 6 + j]? = _
    rw [Nat.zero_mul, Nat.zero_add, List.getElem?_append_left (by simp [cellM]; omega)]
    rfl
  | x :: l, i + 1, h, j, hj => by
    have ih := cellsM_get l i (by simpa using h) j hj
    show (cellM x ++ cellsM l)[(i + 1) * 6 + j]? = _
    rw [show (i + 1) * 6 + j = i * 6 + j + 6 by omega, List.getElem?_append_right (by simp [cellM])]
    simpa [cellM] using ih
/-- a list of definitions in memory -/
def DefRow (w : World) (B : Nat) (T : TypeId) (v : Value) (ds : List (Nat × Dfn)) : Prop :=
  ∃ es : List ((Nat × Dfn) × Value), es.map (·.1) = ds ∧ w.ownsRow B T 6 v ds.length (cellsM es) ∧ ∀ e ∈ es, w.ownsRow 0 9 1 e.2 e.1.2.ps.length (e.1.2.ps.map Value.string)
theorem DefRow.nil (w : World) (B : Nat) (T : TypeId) : DefRow w B T (.slice none 0 0) [] := ⟨[], rfl, World.ownsRow_nil _ _ _ _, fun _ h => by cases h⟩
theorem DefRow.below {w w' : World} {B : Nat} {T : TypeId} {v : Value} {ds : List (Nat × Dfn)} (h : DefRow w B T v ds) (hb : Below w.heap.size w w') : DefRow w' B T v ds := by
  obtain ⟨es, h1, h2, h3⟩ := h
  exact ⟨es, h1, own_belowD h2 hb, fun e he => own_belowD (h3 e he) hb⟩
theorem DefRow.form {w : World} {B : Nat} {T : TypeId} {v : Value} {ds : List (Nat × Dfn)} (h : DefRow w B T v ds) : ∃ A c, v = .slice A ds.length c := by
  obtain ⟨es, h1, h2, h3⟩ := h
  exact own_len h2
theorem grow_below {W w5 : World} {B k n : Nat} {e : TypeId} {v : Value} {xs : List Value} (h2 : W.grownBy w5 v.ownBlock) (ho : W.ownsRow B e k v n xs) (hB : B ≤ W.heap.size) : Below B W w5 := by
  cases hv : v.ownBlock with
  | none => rw [hv] at h2; exact ⟨h2.os, h2.tape, h2.output, h2.size, fun i hi => h2.block i (by omega) (by simp)⟩
  | some q => rw [hv] at h2; exact below_grown h2 (ho.lt q hv).1 hB
theorem infoDef : (Tryz.prog.info? 74).map (fun i => (i.zero, i.size, i.bytes)) = some (some (.agg #[.string ⟨#[]⟩, .int .i64 0, .slice none 0 0, .bool false, .string ⟨#[]⟩, .bool false]), 6, 80) := by kernel_rfl
theorem cells_new6 (w : World) (T : TypeId) (a b c d e f : Value) : ∀ j u, [a, b, c, d, e, f][j]? = some u → (w.alloc (.cells #[a, b, c, d, e, f] T)).cell? ((⟨w.heap.size, 0, none⟩ : Addr).add j) = some u := fun j u hj => by
  have h := (Blk.new w T #[a, b, c, d, e, f]).cell j
  have e1 : ((⟨w.heap.size, 0, none⟩ : Addr).add j) = ⟨w.heap.size, j, none⟩ := by
    unfold Addr.add
    by_cases h0 : j = 0 <;> simp [h0]
  rw [e1, h]
  simpa using hj

set_option maxHeartbeats 1000000 in
set_option maxRecDepth 100000 in
theorem defs_any (n0 : Nat) (A : Option Addr) (c : Nat) (l : List Tz) (w : World) (hG : LexG n0 w) (hl : l.length ≤ 600) (hx : ∀ t ∈ l, t.x.size ≤ 20001) (hR : ZRd w w.heap.size A l) :
    Calls Tryz.prog 32 #[.slice A l.length c] w fun e w' => ∃ v, e = .returned v ∧ Below w.heap.size w w' ∧ DefRow w' w.heap.size 74 v (defsF 0 l) := by
  obtain ⟨i0, hin, hz0, hz1, hz2⟩ := info_parts infoDef
  have HR := Lib.hid hR
  have HL := Lib.hid hl
  have HX := Lib.hid hx
  have HG := Lib.hid hG
  obtain ⟨n, hn⟩ : ∃ n, n = l.length := ⟨_, rfl⟩
  rw [← hn]
  have HN := Lib.hid hn
  have hn6 : n ≤ 600 := by omega
  clear hR hl hx hG hn
  go_enter Tryz.func32, Tryz.ntmps32
  go_wp2_with fail
  go_loopw [3, 10] (fun v3 v10 wr => ∃ k : Nat, k ≤ n ∧ v10 = .int .i64 k ∧ Hid (DefRow wr w.heap.size 74 v3 (defsF 0 (l.take k))) ∧ Hid (Below w.heap.size w wr)) (fun _ v10 _ => n - (intOf v10).toNat)
  case atStart => exact ⟨0, Nat.zero_le _, rfl, by unfold Hid; exact DefRow.nil _ _ _, Below.refl _ _⟩
  case round =>
    obtain ⟨k, hk, rfl, hD, hB⟩ := hrel
    by_cases hlt : k < n
    · have hkl : k < l.length := by rw [← HN.out]; exact hlt
      obtain ⟨b, off, rfl, hbb, c0, c1, c2, c3⟩ := (HR.out.below hB.out).at_ k hkl
      have hltI : (k : Int) < (n : Int) := by omega
      have hstep := defsF_take l k hkl
      have hxs := HX.out l[k] (List.getElem_mem hkl)
      have hlen := defsF_len 0 (l.take k)
      rw [List.length_take] at hlen
      generalize l[k] = t at *
      obtain ⟨tk, tb, tx, ta⟩ := t
      simp only at c0 c1 c2 c3 hstep hxs
      have HDF := Lib.hid (fun W hW => Define_any n0 tk ta tb tx W (HG.out.below (hB.out.trans ((hW : Below wr.heap.size wr W).mono hB.out.size))) hxs)
      obtain ⟨D, hDD⟩ : ∃ D, D = dfnB tk tx := ⟨_, rfl⟩
      rw [← hDD] at HDF hstep
      have HST := Lib.hid hstep
      have HLN : Hid ((defsF 0 (l.take k)).length ≤ 600) := by unfold Hid; omega
      obtain ⟨A3, c3', rfl⟩ := hD.out.form
      clear hstep hDD hxs hlen hkl
      have HB1 : Hid (Below wr.heap.size wr (wr.alloc (.cells #[.int .i64 tk, .string tb, .string tx, .int .i64 ta] 29))) := (Below.refl _ _).alloc (Nat.le_refl _) _
      go_wp2_with fail
      refine (HDF.out _ HB1.out).mono ?_
      rintro e w2 ⟨hb2, hr2⟩
      have HB2 := Lib.hid (HB1.out.trans (hb2.mono HB1.out.size))
      have HD2 := Lib.hid (hD.out.below HB2.out)
      have HBW := Lib.hid (hB.out.trans (HB2.out.mono hB.out.size))
      clear hb2 HDF c0 c1 c2 c3
      cases D with
      | none =>
        have he : e = .returned (.tuple #[zeroM, .bool false]) := hr2
        subst he
        clear hr2
        unfold zeroM
        have HS : Hid (defsF 0 (l.take (k + 1)) = defsF 0 (l.take k)) := by unfold Hid; rw [HST.out, List.append_nil]
        clear HST
        go_wp2_with fail
        go_roundw
        case rel => exact ⟨k + 1, by omega, by go_num, by unfold Hid; rw [HS.out]; exact HD2.out.below ((Below.refl _ _).alloc (Nat.le_refl _) _), HBW.out.alloc HBW.out.size _⟩
        case measure => simp [intOf]; omega
      | some d =>
        obtain ⟨v, rfl, hO⟩ := hr2
        obtain ⟨A5, ca5, rfl⟩ := own_len hO
        have HO := Lib.hid hO
        obtain ⟨bd, hbd⟩ : ∃ bd, bd = bodyB d := ⟨_, rfl⟩
        rw [← hbd]
        have HBD := Lib.hid hbd
        obtain ⟨dnm, dps, dfn, dbw, dgn⟩ := d
        simp only at HO HBD
        obtain ⟨es, hes, hrow, hpar⟩ := HD2.out
        have HES := Lib.hid hes
        have HROW := Lib.hid hrow
        have HPAR := Lib.hid hpar
        clear hO hbd hes hrow hpar HD2 hD
        obtain ⟨m, hm⟩ : ∃ m, m = (defsF 0 (l.take k)).length := ⟨_, rfl⟩
        rw [← hm] at HROW HLN ⊢
        have HM := Lib.hid hm
        have hm6 := HLN.out
        clear hm
        have HNW : Hid (∀ j u, [Value.string dnm, .int .i64 k, .slice A5 dps.length ca5, .bool dfn, .string bd, .bool dgn][j]? = some u → ((w2.alloc (.cells #[.string dnm, .int .i64 k, .slice A5 dps.length ca5, .bool dfn, .string bd, .bool dgn] 74)).alloc (.cells #[.string dnm, .int .i64 k, .slice A5 dps.length ca5, .bool dfn, .string bd, .bool dgn] 74)).cell? ((⟨w2.heap.size + 1, 0, none⟩ : Addr).add j) = some u) := by
          have h := cells_new6 (w2.alloc (.cells #[.string dnm, .int .i64 k, .slice A5 dps.length ca5, .bool dfn, .string bd, .bool dgn] 74)) 74 (.string dnm) (.int .i64 k) (.slice A5 dps.length ca5) (.bool dfn) (.string bd) (.bool dgn)
          rw [show (w2.alloc (.cells #[.string dnm, .int .i64 k, .slice A5 dps.length ca5, .bool dfn, .string bd, .bool dgn] 74)).heap.size = w2.heap.size + 1 by simp] at h
          exact h
        have hbs : w.heap.size ≤ w2.heap.size := HBW.out.size
        go_wp2_with (at_builtin; refine wpList_append_own_at _ rfl (.tmp 23) (.tmp 25) 68 rfl w.heap.size 74 i0 _ 6 80 Tryz.underlying68 hin hz0 hz1 hz2 rfl (by decide) _ m (cellsM es) rfl ((HROW.out.alloc _).alloc _) ⟨w2.heap.size + 1, 0, none⟩ 1 1 [Value.string dnm, .int .i64 k, .slice A5 dps.length ca5, .bool dfn, .string bd, .bool dgn] rfl rfl HNW.out (by simp [Value.oneCell']) (by unfold maxLen; omega) (by omega) (by simp; omega) ?_; intro v' w5 hown' hgr _ hat; obtain ⟨g5, cap5, rfl, hgb5, hglt5⟩ := hown'.form (by omega); have hHi := Lib.hid hown'; have hgi := Lib.hid hgr; clear hown' hgr hat)
        go_roundw
        case rel =>
          refine ⟨k + 1, by omega, by go_num, ?_, ?_⟩
          · refine ⟨es ++ [((k, ⟨dnm, dps, dfn, dbw, dgn⟩), .slice A5 dps.length ca5)], ?_, ?_, ?_⟩
            · rw [List.map_append, HES.out, HST.out]
              rfl
            · have h := hHi.out
              rw [HST.out, List.length_append, List.length_singleton, ← HM.out, cellsM_append]
              rw [HBD.out] at h
              exact h
            · intro e he
              have h2 := (HROW.out.alloc (.cells #[.string dnm, .int .i64 k, .slice A5 dps.length ca5, .bool dfn, .string bd, .bool dgn] 74)).alloc (.cells #[.string dnm, .int .i64 k, .slice A5 dps.length ca5, .bool dfn, .string bd, .bool dgn] 74)
              rcases List.mem_append.1 he with he | he
              · exact own_apartL (((HPAR.out e he).alloc _).alloc _) h2 (by decide) hgi.out
              · rw [List.mem_singleton.1 he]
                exact own_apartL (((own_baseL HO.out (Nat.zero_le _)).alloc _).alloc _) h2 (by decide) hgi.out
          · have hbb := (HBW.out.alloc hbs (.cells #[.string dnm, .int .i64 k, .slice A5 dps.length ca5, .bool dfn, .string bd, .bool dgn] 74)).alloc (by simp; omega) (.cells #[.string dnm, .int .i64 k, .slice A5 dps.length ca5, .bool dfn, .string bd, .bool dgn] 74)
            exact hbb.trans (grow_below (v := .slice A3 m c3') hgi.out ((HROW.out.alloc _).alloc _) hbb.size)
        case measure => simp [intOf]; omega
    · obtain rfl : k = n := by omega
      have HE : Hid (l.take k = l) := List.take_of_length_le (by rw [← HN.out]; exact Nat.le_refl _)
      have hltI : ¬ (k : Int) < (k : Int) := by omega
      obtain ⟨A3, c3', rfl⟩ := hD.out.form
      clear hlt
      go_wp2_with fail
      go_ret
      refine ⟨_, rfl, hB.out, ?_⟩
      have := hD.out
      rw [HE.out] at this ⊢
      exact this

end Go.Proofs.YtjdpkhjoecfhlaaGreatDoor

namespace Go.Proofs.YtjdpkhjoecfhlaaGreatDoor
open Go.RowKit Go.Shelf

attribute [local go_sem] Oper.semAt_some

/-- tokens whose texts are small -/
abbrev TzS := { t : Tz // t.x.size ≤ 20001 }
instance : Inhabited TzS := ⟨⟨⟨0, ByteArray.empty, ByteArray.empty, 0⟩, by decide⟩⟩
/-- tokens from behind, down to a place -/
def dnZ (l : List TzS) (m r : Nat) : List (Nat × TzS) := (List.range (m - r)).map fun j => (m - 1 - j, l.getD (m - 1 - j) default)
theorem dnZ_top (l : List TzS) (m : Nat) : dnZ l m m = [] := by simp [dnZ]
theorem dnZ_len (l : List TzS) (m r : Nat) : (dnZ l m r).length = m - r := by simp [dnZ]
theorem dnZ_succ (l : List TzS) (m r : Nat) (h : r + 1 ≤ m) (hl : r < l.length) : dnZ l m r = dnZ l m (r + 1) ++ [(r, l[r])] := by
  unfold dnZ
  rw [show m - r = m - (r + 1) + 1 by omega, List.range_succ, List.map_append, List.map_singleton]
  rw [show m - 1 - (m - (r + 1)) = r by omega]
  simp [List.getD_eq_getElem?_getD, hl]
def encZ (x : Nat × TzS) : Array Value := #[.int .i64 (x.1 : Nat), .agg #[.int .i64 x.2.1.k, .string x.2.1.b, .string x.2.1.x, .int .i64 x.2.1.a]]

set_option maxRecDepth 100000 in
set_option maxHeartbeats 1000000 in
theorem backward1_in (n l Bs n₀ b off m cap : Nat) (ts : List TzS) (hm : m ≤ ts.length) (hm6 : m ≤ 1000000) (hb : b < n₀) (hBn : Bs < n₀) (J Jx : List (Nat × TzS) → World → Prop)
    (hY : ∀ pre x W, J pre W → pre.length < m → YieldAt Fence.wide (n - 1) Tryz.prog l (encZ x) W fun e W' =>
      (e = .returned (.bool true) ∧ J (pre ++ [x]) W' ∧ Below n₀ W W') ∨ (e = .returned (.bool false) ∧ Jx (pre ++ [x]) W'))
    (W : World) (hBs : W.cell? ⟨Bs, 0, none⟩ = some (.slice (some ⟨b, off, none⟩) m cap))
    (hc : ∀ j (h : j < ts.length), W.cell? ⟨b, off + j * 4, none⟩ = some (.int .i64 ts[j].1.k) ∧ W.cell? ⟨b, off + j * 4 + 1, none⟩ = some (.string ts[j].1.b) ∧ W.cell? ⟨b, off + j * 4 + 2, none⟩ = some (.string ts[j].1.x) ∧ W.cell? ⟨b, off + j * 4 + 3, none⟩ = some (.int .i64 ts[j].1.a)) (h0 : J [] W) :
    CallsIn Fence.wide n Tryz.prog 136 #[.func (.yield l) #[] #[], .pointer (some ⟨Bs, 0, none⟩)] W fun e W' => (∃ v, e = .returned v) ∧
      ((∃ ys, ys = dnZ ts m 0 ∧ J ys W') ∨ (∃ pre, (∃ r, r ≤ m ∧ pre = dnZ ts m r) ∧ Jx pre W')) := by
  have HC := Lib.hid hc
  clear hc
  refine callsIn_of_wp Tryz.func136 rfl trivial ?_ rfl
  simp only [Tryz.ntmps136, List.size_toArray, List.length_cons, List.length_nil, Nat.reduceAdd, Nat.reduceSub, Array.replicate_succ, Array.replicate_zero, List.push_toArray, List.append_toArray, List.nil_append, List.cons_append]
  gi_wp2
  gi_loopw [3] (fun i wr => ∃ r : Nat, r ≤ m ∧ i = .int .i64 ((r : Int) - 1) ∧ J (dnZ ts m r) wr ∧ Hid (Below n₀ W wr)) (fun i _ => (intOf i + 1).toNat)
  case atStart => exact ⟨m, Nat.le_refl _, rfl, by rw [dnZ_top]; exact h0, Below.refl _ _⟩
  case round =>
    obtain ⟨r, hr, rfl, hJs, hnx⟩ := hrel
    have hBs' := (hnx.out.cell (p := ⟨Bs, 0, none⟩) hBn).trans hBs
    cases r with
    | zero =>
      gi_wp2
      go_end0
      exact ⟨⟨_, rfl⟩, .inl ⟨_, rfl, hJs⟩⟩
    | succ q =>
      have hq : q < ts.length := by omega
      obtain ⟨c0, c1, c2, c3⟩ := HC.out q hq
      have d0 := (hnx.out.cell (p := ⟨b, off + q * 4, none⟩) hb).trans c0
      have d1 := (hnx.out.cell (p := ⟨b, off + q * 4 + 1, none⟩) hb).trans c1
      have d2 := (hnx.out.cell (p := ⟨b, off + q * 4 + 2, none⟩) hb).trans c2
      have d3 := (hnx.out.cell (p := ⟨b, off + q * 4 + 3, none⟩) hb).trans c3
      have hs := dnZ_succ ts m q hr hq
      obtain ⟨fn, tmps, assign, body, hy, hR⟩ := hY _ (q, ts[q]) wr hJs (by rw [dnZ_len]; omega)
      unfold encZ at hy
      dsimp only at hy
      generalize ts[q] = t at *
      obtain ⟨⟨tk, tb, tx, ta⟩, htx⟩ := t
      dsimp only at hy d0 d1 d2 d3
      have HS := Lib.hid hs
      have e1 : (((q + 1 : Nat) : Int) - 1) = (q : Int) := by omega
      rw [e1]
      have q0 : 0 ≤ (q : Int) := by omega
      have q1 : (q : Int) < (m : Int) := by omega
      clear hs c0 c1 c2 c3 e1
      gi_wp2
      refine ⟨by simp [Fence.wide], hR.mono ?_⟩
      rintro e W3 (⟨rfl, hJ3, hk3⟩ | ⟨rfl, hJx3⟩)
      · gi_wp2
        go_roundw
        case rel => exact ⟨q, by omega, rfl, by rw [HS.out]; exact hJ3, hnx.out.trans hk3⟩
        case measure => simp [intOf]
      · gi_wp2
        refine bodyPost_ret (results_none rfl _ _ _) rfl ?_
        exact ⟨⟨_, rfl⟩, .inr ⟨_, ⟨q, by omega, HS.out.symm⟩, hJx3⟩⟩

set_option maxHeartbeats 1000000 in
theorem backward_in (n : Nat) (A : Option Addr) (len cap : Nat) (w : World) :
    CallsIn Fence.wide n Tryz.prog 90 #[.slice A len cap] w fun e w' => e = .returned (.func (.func 136) #[] #[.pointer (some ⟨w.heap.size, 0, none⟩)]) ∧ w' = w.alloc (.cells #[.slice A len cap] 22) := by
  refine callsIn_of_wp Tryz.func90 rfl trivial ?_ rfl
  simp only [Tryz.ntmps90, List.size_toArray, List.length_cons, List.length_nil, Nat.reduceAdd, Nat.reduceSub, Array.replicate_succ, Array.replicate_zero, List.push_toArray, List.append_toArray, List.nil_append, List.cons_append]
  gi_wp2
  go_ret
  exact ⟨rfl, rfl⟩

set_option maxRecDepth 100000 in
set_option maxHeartbeats 1000000 in
theorem backward1_nil_in (n l Bs cap : Nat) (A : Option Addr) (J : List (Nat × TzS) → World → Prop) (W : World) (hBs : W.cell? ⟨Bs, 0, none⟩ = some (.slice A 0 cap)) (h0 : J [] W) :
    CallsIn Fence.wide n Tryz.prog 136 #[.func (.yield l) #[] #[], .pointer (some ⟨Bs, 0, none⟩)] W fun e W' => (∃ v, e = .returned v) ∧ J [] W' := by
  refine callsIn_of_wp Tryz.func136 rfl trivial ?_ rfl
  simp only [Tryz.ntmps136, List.size_toArray, List.length_cons, List.length_nil, Nat.reduceAdd, Nat.reduceSub, Array.replicate_succ, Array.replicate_zero, List.push_toArray, List.append_toArray, List.nil_append, List.cons_append]
  gi_wp2
  gi_loopw [3] (fun i wr => i = .int .i64 (-1) ∧ J [] wr) (fun _ _ => 0)
  case atStart => exact ⟨rfl, h0⟩
  case round =>
    obtain ⟨rfl, hJs⟩ := hrel
    gi_wp2
    go_end0
    exact ⟨⟨_, rfl⟩, hJs⟩

/-- the sequence of slices.Backward(s): all tokens from behind, or as many as were asked for -/
theorem backward_stops (n Bs n₀ m cap : Nat) (A : Option Addr) (ts : List TzS) (hm : m ≤ ts.length) (hm6 : m ≤ 1000000) (w : World) (hBs : Bs < n₀) (hn₀ : n₀ ≤ w.heap.size) (hc : w.cell? ⟨Bs, 0, none⟩ = some (.slice A m cap)) (hR : 0 < m → ZRd w n₀ A (ts.map (·.1))) :
    SeqStopsK Fence.wide n Tryz.prog 136 #[.pointer (some ⟨Bs, 0, none⟩)] encZ (Below n₀) (fun ys => ys = dnZ ts m 0) (fun pre => ∃ r, r ≤ m ∧ pre = dnZ ts m r) m w := fun l J Jx W hW _ _ hY h0 => by
  have hc' := (hW.cell (p := ⟨Bs, 0, none⟩) (Nat.lt_of_lt_of_le hBs hn₀)).trans hc
  by_cases h : m = 0
  · subst h
    exact (backward1_nil_in n l Bs cap A J W hc' h0).mono fun e W' ⟨he, hj⟩ => ⟨he, .inl ⟨_, by simp [dnZ], hj⟩⟩
  · have hR' := (hR (by omega)).below (hW.mono hn₀)
    obtain ⟨b, off, rfl, hb, _⟩ := hR'.at_ 0 (by rw [List.length_map]; omega)
    refine (backward1_in n l Bs n₀ b off m cap ts hm hm6 hb hBs J Jx hY W hc' (fun j hj => by
      obtain ⟨b2, off2, e, _, g⟩ := hR'.at_ j (by rw [List.length_map]; exact hj)
      cases e
      simpa using g) h0).mono ?_
    rintro e W' ⟨he, ⟨ys, rfl, hj⟩ | ⟨pre, hr, hj⟩⟩
    · exact ⟨he, .inl ⟨_, rfl, hj⟩⟩
    · exact ⟨he, .inr ⟨_, hr, hj⟩⟩

end Go.Proofs.YtjdpkhjoecfhlaaGreatDoor

namespace Go.Proofs.YtjdpkhjoecfhlaaGreatDoor
open Go.RowKit Go.Maps Go.Shelf

attribute [local go_sem] Oper.semAt_some

/-- what a token says of a name -/
def hit (nm : ByteArray) (t : Tz) : Option Dfn := match dfnB t.k t.x with | some d => if d.nm = nm then some d else none | none => none
/-- the last definition of a name before a place -/
def findAny (nm : ByteArray) (l : List Tz) : Nat → Option (Nat × Dfn)
  | 0 => none
  | k + 1 => match (l[k]?).bind (hit nm) with | some d => some (k, d) | none => findAny nm l k
def findK (nm : ByteArray) (l : List Tz) (k : Nat) : Option (Nat × Dfn) := (findAny nm l k).filter fun p => !p.2.gone
theorem findAny_down (nm : ByteArray) (ts : List TzS) (m : Nat) (hm : m ≤ ts.length) : ∀ j, j ≤ m → (∀ y ∈ dnZ ts m (m - j), hit nm y.2.1 = none) → findAny nm (ts.map (·.1)) m = findAny nm (ts.map (·.1)) (m - j)
  | 0, _, _ => rfl
  | j + 1, hj, h => by
    have hlt : m - (j + 1) < ts.length := by omega
    have hs := dnZ_succ ts m (m - (j + 1)) (by omega) hlt
    rw [show m - (j + 1) + 1 = m - j by omega] at hs
    rw [findAny_down nm ts m hm j (by omega) fun y hy => h y (by rw [hs]; exact List.mem_append_left _ hy)]
    have hx := h (m - (j + 1), ts[m - (j + 1)]) (by rw [hs]; simp)
    rw [show m - j = m - (j + 1) + 1 by omega, findAny, List.getElem?_map, List.getElem?_eq_getElem hlt]
    simp only [Option.map_some, Option.bind_some]
    rw [hx]
theorem findAny_all (nm : ByteArray) (ts : List TzS) (m : Nat) (hm : m ≤ ts.length) (h : ∀ y ∈ dnZ ts m 0, hit nm y.2.1 = none) : findAny nm (ts.map (·.1)) m = none := by
  rw [findAny_down nm ts m hm m (Nat.le_refl _) (by rw [Nat.sub_self]; exact h), Nat.sub_self]
  rfl
theorem findAny_hit (nm : ByteArray) (ts : List TzS) (m r : Nat) (hm : m ≤ ts.length) (hr : r ≤ m) (pre : List (Nat × TzS)) (x : Nat × TzS) (d : Dfn) (h : pre ++ [x] = dnZ ts m r) (h1 : ∀ y ∈ pre, hit nm y.2.1 = none) (h2 : hit nm x.2.1 = some d) : findAny nm (ts.map (·.1)) m = some (x.1, d) := by
  have hlen := congrArg List.length h
  rw [dnZ_len, List.length_append, List.length_singleton] at hlen
  have hlt : r < ts.length := by omega
  have hs := dnZ_succ ts m r (by omega) hlt
  rw [hs] at h
  obtain ⟨h3, h4⟩ := List.append_inj' h rfl
  injection h4 with h4
  subst h4
  have hd := findAny_down nm ts m hm (m - (r + 1)) (by omega) (by rw [show m - (m - (r + 1)) = r + 1 by omega, ← h3]; exact h1)
  rw [show m - (m - (r + 1)) = r + 1 by omega] at hd
  rw [hd, findAny, List.getElem?_map, List.getElem?_eq_getElem hlt]
  simp only [Option.map_some, Option.bind_some]
  rw [h2]

/-- what find gives -/
def FindR (B : Nat) (o : Option (Nat × Dfn)) (e : Ending) (w' : World) : Prop :=
  match o with
  | none => e = .returned (.tuple #[zeroD, .bool false])
  | some (i, d) => ∃ A n c A4 n4 c4, e = .returned (.tuple #[.agg #[.string d.nm, .int .i64 (i : Nat), .slice A n c, .bool d.fn, .string (bodyB d), .bool d.gone, .slice A4 n4 c4], .bool true]) ∧ w'.ownsRow B 9 1 (.slice A n c) d.ps.length (d.ps.map Value.string)
/-- how a round that leaves has left -/
def LeftAs (B b6 b7 : Nat) (nm : ByteArray) (w0 : World) (cd : Code) (pre : List (Nat × TzS)) (W : World) : Prop :=
  ∃ pre' x d, pre = pre' ++ [x] ∧ (∀ y ∈ pre', hit nm y.2.1 = none) ∧ hit nm x.2.1 = some d ∧ Below B w0 W ∧
    ((cd = .ret ∧ d.gone = false ∧ ∃ A n c A4 n4 c4, Blk W b6 122 #[.string d.nm, .int .i64 (x.1 : Nat), .slice A n c, .bool d.fn, .string (bodyB d), .bool d.gone, .slice A4 n4 c4] ∧ Blk W b7 4 #[.bool true] ∧ W.ownsRow B 9 1 (.slice A n c) d.ps.length (d.ps.map Value.string))
     ∨ (cd = .exit 0 ∧ d.gone = true ∧ Blk W b6 122 zeroA ∧ Blk W b7 4 #[.bool false]))
theorem results_cell2 {fn : Func} {p q : Tmp} {ty tz : TypeId} (h : fn.results = #[.cell p ty, .cell q tz]) (tmps : Array Value) (P : Program) (w : World) :
    (results fn tmps).run P w =
      ((asAddr (tmps.getD p undef)).run P w).andThen fun a w₁ => ((loadVar ty a).run P w₁).andThen fun v w₂ =>
        ((asAddr (tmps.getD q undef)).run P w₂).andThen fun b w₃ => ((loadVar tz b).run P w₃).andThen fun v' w₄ => .ok (.tuple #[v, v']) w₄ := by
  simp only [results, h]
  simp [Sem.run_bind, Result.andThen]
theorem blk_own {W W' : World} {b : Nat} {t : TypeId} {vs : Array Value} {row : Option Nat} (h : Blk W b t vs) (hg : W.grownBy W' row) (hr : ∀ r, row = some r → ∃ o : Obj, W.heap[r]? = some o ∧ o.isCells = false) : Blk W' b t vs :=
  h.kept hg fun e => by
    obtain ⟨o, ho, hc⟩ := hr b e.symm
    rw [show W.heap[b]? = _ from h] at ho
    injection ho with ho
    rw [← ho] at hc
    cases hc
theorem row_own {W W' : World} {B k n : Nat} {e : TypeId} {v : Value} {xs : List Value} {row : Option Nat} (h : W.ownsRow B e k v n xs) (hg : W.grownBy W' row) (hr : ∀ r, row = some r → ∃ o : Obj, W.heap[r]? = some o ∧ o.isCells = false) : W'.ownsRow B e k v n xs := by
  refine h.kept hg ?_
  cases hv : v.ownBlock with
  | none => exact .inl rfl
  | some q =>
    refine .inr fun e => ?_
    obtain ⟨o, ho, hc⟩ := hr q e.symm
    obtain ⟨cur, hcur⟩ := own_typeL h hv
    rw [hcur] at ho
    injection ho with ho
    rw [← ho] at hc
    cases hc

set_option maxRecDepth 100000 in
set_option maxHeartbeats 1000000 in
theorem find_in (n : Nat) (hn : 3 ≤ n) (n0 : Nat) (A : Option Addr) (c : Nat) (ts : List TzS) (nm : ByteArray) (at_ : Int) (w : World) (hG : LexG n0 w) (hl : ts.length ≤ 600) (hlc : ts.length ≤ c) (hR : ZRd w w.heap.size A (ts.map (·.1))) (ha1 : -9223372036854775808 ≤ at_) (ha2 : at_ ≤ 9223372036854775807) :
    CallsIn Fence.wide n Tryz.prog 65 #[.slice A ts.length c, .string nm, .int .i64 at_] w fun e w' => Below w.heap.size w w' ∧ FindR w.heap.size (findK nm (ts.map (·.1)) (max 0 (min at_ ts.length)).toNat) e w' := by
  have h1 : 1 ≤ n := by omega
  obtain ⟨m, hm⟩ : ∃ m, m = (max 0 (min at_ (ts.length : Int))).toNat := ⟨_, rfl⟩
  have hmI : (m : Int) = max 0 (min at_ (ts.length : Int)) := by omega
  have hml : m ≤ ts.length := by omega
  obtain ⟨O, hO⟩ : ∃ O, O = findK nm (ts.map (·.1)) (max 0 (min at_ (ts.length : Int))).toNat := ⟨_, rfl⟩
  rw [← hO]
  have HOO : Hid (O = findK nm (ts.map (·.1)) m) := by unfold Hid; rw [hO, hm]
  clear hO
  refine callsIn_of_wp_marks Tryz.func65 rfl trivial ?_ rfl
  simp only [Tryz.ntmps65, List.size_toArray, List.length_cons, List.length_nil, Nat.reduceAdd, Nat.reduceSub, Array.replicate_succ, Array.replicate_zero, List.push_toArray, List.append_toArray, List.nil_append, List.cons_append]
  gi_wp2
  rw [← hm]
  refine ⟨trivial, (backward_in (n - 1) _ _ _ _).mono ?_⟩
  obtain ⟨W1, hW1⟩ : ∃ W1, W1 = (((w.alloc (.cells #[.string nm] 9)).alloc (.cells zeroA 122)).alloc (.cells #[.bool false] 4)).alloc (.cells #[.slice A m c] 22) := ⟨_, rfl⟩
  have hsz : W1.heap.size = w.heap.size + 4 := by rw [hW1]; simp
  have F1 : Blk W1 w.heap.size 9 #[.string nm] := by rw [hW1]; exact (((Blk.new w _ _).alloc _).alloc _).alloc _
  have F2 : Blk W1 (w.heap.size + 1) 122 zeroA := by
    have := Blk.new (w.alloc (.cells #[.string nm] 9)) 122 zeroA
    rw [show (w.alloc (.cells #[.string nm] 9)).heap.size = w.heap.size + 1 by simp] at this
    rw [hW1]
    exact (this.alloc _).alloc _
  have F3 : Blk W1 (w.heap.size + 2) 4 #[.bool false] := by
    have := Blk.new ((w.alloc (.cells #[.string nm] 9)).alloc (.cells zeroA 122)) 4 #[.bool false]
    rw [show ((w.alloc (.cells #[.string nm] 9)).alloc (.cells zeroA 122)).heap.size = w.heap.size + 2 by simp] at this
    rw [hW1]
    exact this.alloc _
  have F4 : W1.cell? ⟨w.heap.size + 3, 0, none⟩ = some (.slice A m c) := by
    have := Blk.new (((w.alloc (.cells #[.string nm] 9)).alloc (.cells zeroA 122)).alloc (.cells #[.bool false] 4)) 22 #[.slice A m c]
    rw [show (((w.alloc (.cells #[.string nm] 9)).alloc (.cells zeroA 122)).alloc (.cells #[.bool false] 4)).heap.size = w.heap.size + 3 by simp] at this
    rw [hW1]
    exact this.cell 0
  have F5 : Below w.heap.size w W1 := by rw [hW1]; exact ((((Below.refl _ _).alloc (Nat.le_refl _) _).alloc (by simp) _).alloc (by simp; omega) _).alloc (by simp; omega) _
  have F6 : LexG n0 W1 := hG.below F5
  have hR1 : ZRd W1 W1.heap.size A (ts.map (·.1)) := (hR.below F5).up F5.size
  rintro e w' ⟨rfl, hw'⟩
  rw [hw']
  clear hw'
  have hW1' : (((w.alloc (.cells #[.string nm] 9)).alloc (.cells zeroA 122)).alloc (.cells #[.bool false] 4)).alloc (.cells #[.slice A m c] 22) = W1 := hW1.symm
  rw [hW1']
  clear hW1 hW1'
  gi_wp2
  refine wpIn_rangeFunc_ownH rfl h1 (gf := 136) (lb := #[.pointer (some ⟨w.heap.size + 1 + 1 + 1, 0, none⟩)]) rfl trivial (enters_of Tryz.func136 (by kernel_rfl) rfl)
    (backward_stops (n - 1) (w.heap.size + 3) W1.heap.size m c A ts hml (by omega) W1 (by omega) (Nat.le_refl _) F4 (fun _ => hR1)) belowK_t (belowK_b (Nat.le_refl _)) (Below.refl _ _) (fun _ => rfl)
    (fun pre W => (∀ y ∈ pre, hit nm y.2.1 = none) ∧ Below W1.heap.size W1 W)
    (fun cd pre W => LeftAs w.heap.size (w.heap.size + 1) (w.heap.size + 2) nm w cd pre W)
    (OwnFrom.and (ownFrom_pure _ _) (ownFrom_below (Nat.le_refl _) (Nat.le_refl _)))
    (fun cd pre X Y row hs hg hr => ?own)
    ⟨by simp, Below.refl _ _⟩
    (fun x a' W => ∃ Bx, W1.heap.size ≤ Bx ∧ Blk W Bx 29 #[.int .i64 x.2.1.k, .string x.2.1.b, .string x.2.1.x, .int .i64 x.2.1.a] ∧ a' = { tmps := #[.slice A ts.length c, .string nm, .int .i64 at_, undef, .pointer (some ⟨w.heap.size, 0, none⟩), undef, .pointer (some ⟨w.heap.size + 1, 0, none⟩), .pointer (some ⟨w.heap.size + 1 + 1, 0, none⟩), .int .i64 (x.1 : Nat), .pointer (some ⟨Bx, 0, none⟩), undef, undef, .slice A ts.length c, .int .i64 at_, .slice A ts.length c, .int .i64 ts.length, .int .i64 (min at_ ts.length), .int .i64 (max 0 (min at_ ts.length)), .slice A (max 0 (min at_ (ts.length : Int))).toNat c, .func (.func 136) #[] #[.pointer (some ⟨w.heap.size + 1 + 1 + 1, 0, none⟩)], .int .i64 (x.1 : Nat), .agg #[.int .i64 x.2.1.k, .string x.2.1.b, .string x.2.1.x, .int .i64 x.2.1.a], undef, undef, undef, undef, undef, undef, undef, undef, undef, undef, undef, undef, undef, undef, undef, undef, undef, undef, undef, undef, undef, undef], defers := [] })
    (fun x a' _ X Y row hs hg hr => by obtain ⟨Bx, h1, h2, h3⟩ := hs; exact ⟨Bx, h1, blk_own h2 hg (fun r e => (hr r e).2), h3⟩)
    ?assign ?body ?done ?stop
  case own =>
    obtain ⟨pre', x, d, e1, e2, e3, hB, h⟩ := hs
    refine ⟨pre', x, d, e1, e2, e3, hB.grown hg (by have := hB.size; omega) (fun k e => by have := (hr k e).1; omega), ?_⟩
    have hr2 := fun r e => (hr r e).2
    rcases h with ⟨e4, e5, A', n', c', A4, n4, c4, k1, k2, k3⟩ | ⟨e4, e5, k1, k2⟩
    · exact .inl ⟨e4, e5, A', n', c', A4, n4, c4, blk_own k1 hg hr2, blk_own k2 hg hr2, row_own k3 hg hr2⟩
    · exact .inr ⟨e4, e5, blk_own k1 hg hr2, blk_own k2 hg hr2⟩
  case assign =>
    rintro l pre x W K ⟨hmiss, hB⟩ hK
    unfold encZ
    gi_wp2
    exact hK _ _ ((KeepsOthers.alloc _ _).from _) ((Below.refl _ W).alloc hB.size _) ⟨hmiss, hB.alloc hB.size _⟩ ⟨W.heap.size, hB.size, Blk.new W _ _, rfl⟩
  case body =>
    rintro l pre ⟨xi, ⟨⟨tk, tb, tx, ta⟩, htx⟩⟩ a' W hl ⟨r, hrl⟩ ⟨hmiss, hB⟩ ⟨Bx, hBx, bX, rfl⟩ hlt
    dsimp only at bX hl ⊢
    have x0 := bX.cell 0
    have x1 := bX.cell 1
    have x2 := bX.cell 2
    have x3 := bX.cell 3
    simp at x0 x1 x2 x3
    have HDF := Lib.hid (define_any n0 tk ta tb tx W (F6.below hB) htx)
    obtain ⟨D, hD⟩ : ∃ D, D = dfnB tk tx := ⟨_, rfl⟩
    rw [← hD] at HDF
    have HD := Lib.hid hD
    have HMISS := Lib.hid hmiss
    have HB := Lib.hid hB
    have HSZ := Lib.hid hsz
    clear hD hmiss hB hm hmI
    gi_wp2
    refine ⟨trivial, by simp [Fence.wide], (CallsIn.inRound l (callsIn_wide.2 HDF.out)).mono ?_⟩
    rintro e w2 ⟨hb2, hr2⟩
    have hbw := HB.out.trans (hb2.mono HB.out.size)
    have HB2 := Lib.hid hbw
    have HBS := Lib.hid hb2
    have f0 := (F1.below hbw F1.lt).cell 0
    simp at f0
    have hsz2 : w.heap.size + 4 ≤ w2.heap.size := by have := hbw.size; have := HSZ.out; omega
    have hs0 : w.heap.size < w2.heap.size := by omega
    have hs1 : w.heap.size + 1 < w2.heap.size := by omega
    have hs2 : w.heap.size + 1 + 1 < w2.heap.size := by omega
    have G6 := Lib.hid (F2.below hbw F2.lt)
    have G7 := Lib.hid (F3.below hbw F3.lt)
    clear hb2 hbw HDF
    cases D with
    | none =>
      have he : e = .returned (.tuple #[zeroD, .bool false]) := hr2
      subst he
      clear hr2
      unfold zeroD
      have HH : Hid (hit nm ⟨tk, tb, tx, ta⟩ = none) := by unfold Hid hit; rw [← HD.out]
      gi_wp2
      exact ⟨(KeepsFrom.of_grownBy (grownBy_below HBS.out none) (fun _ e => by cases e)).trans ((KeepsOthers.alloc _ _).from _), (HBS.out.mono HB.out.size).alloc HB2.out.size _, fun y hy => by
        rcases List.mem_append.1 hy with hy | hy
        · exact HMISS.out y hy
        · rw [List.mem_singleton.1 hy]; exact HH.out, HB2.out.alloc HB2.out.size _⟩
    | some d =>
      obtain ⟨v, A6, n6, c6, rfl, hO⟩ := hr2
      obtain ⟨A5, ca5, rfl⟩ := own_len hO
      have HO := Lib.hid hO
      clear hO
      obtain ⟨bd, hbd⟩ : ∃ bd, bd = bodyB d := ⟨_, rfl⟩
      rw [← hbd]
      have HBD := Lib.hid hbd
      obtain ⟨dnm, dps, dfn, dbw, dgn⟩ := d
      simp only at HO HBD
      clear hbd
      by_cases hnm : dnm = nm
      · subst hnm
        have HH : Hid (hit dnm ⟨tk, tb, tx, ta⟩ = some ⟨dnm, dps, dfn, dbw, dgn⟩) := by unfold Hid hit; rw [← HD.out]; simp
        cases dgn with
        | true =>
          gi_wp2
          refine ⟨(KeepsFrom.of_grownBy (grownBy_below HBS.out none) (fun _ e => by cases e)).trans ((KeepsOthers.alloc _ _).from _), pre, _, _, rfl, HMISS.out, HH.out, (F5.trans (HB2.out.mono F5.size)).alloc (by omega) _, .inr ⟨rfl, rfl, G6.out.alloc _, G7.out.alloc _⟩⟩
        | false =>
          have z0 := G6.out.cell 0
          have z1 := G6.out.cell 1
          have z2 := G6.out.cell 2
          have z3 := G6.out.cell 3
          have z4 := G6.out.cell 4
          have z5 := G6.out.cell 5
          have z6 := G6.out.cell 6
          have k0 := G6.out.frozen 0
          have k1 := G6.out.frozen 1
          have k2 := G6.out.frozen 2
          have k3 := G6.out.frozen 3
          have k4 := G6.out.frozen 4
          have k5 := G6.out.frozen 5
          have k6 := G6.out.frozen 6
          simp at z0 z1 z2 z3 z4 z5 z6
          have u0 := G7.out.cell 0
          have p0 := G7.out.frozen 0
          simp at u0
          gi_wp2
          have ne6 : ∀ q, (Value.slice A5 dps.length ca5).ownBlock = some q → q ≠ w.heap.size + 1 := fun q e h => by
            subst h
            obtain ⟨cur, hcur⟩ := own_typeL HO.out e
            have h2 : w2.heap[w.heap.size + 1]? = _ := G6.out
            rw [hcur] at h2
            injection h2 with h2
            injection h2 with _ h2
            exact absurd h2 (by decide)
          have ne7 : ∀ q, (Value.slice A5 dps.length ca5).ownBlock = some q → q ≠ w.heap.size + 1 + 1 := fun q e h => by
            subst h
            obtain ⟨cur, hcur⟩ := own_typeL HO.out e
            have h2 : w2.heap[w.heap.size + 2]? = _ := G7.out
            rw [show w.heap.size + 2 = w.heap.size + 1 + 1 from rfl, hcur] at h2
            injection h2 with h2
            injection h2 with _ h2
            exact absurd h2 (by decide)
          have hbase : w.heap.size ≤ W.heap.size := by have := HB.out.size; have := HSZ.out; omega
          refine ⟨(KeepsFrom.of_grownBy (grownBy_below HBS.out none) (fun _ e => by cases e)).trans (KeepsFrom.trans ((((((((KeepsOthers.setCell _ _ _).trans (KeepsOthers.setCell _ _ _)).trans (KeepsOthers.setCell _ _ _)).trans (KeepsOthers.setCell _ _ _)).trans (KeepsOthers.setCell _ _ _)).trans (KeepsOthers.setCell _ _ _)).trans (KeepsOthers.setCell _ _ _)).trans (KeepsOthers.setCell _ _ _) |>.from _) ((KeepsOthers.alloc _ _).from _)), pre, _, _, rfl, HMISS.out, HH.out, ?_, .inl ⟨rfl, rfl, A5, dps.length, ca5, A6, n6, c6, ?_, ?_, ?_⟩⟩
          · refine Below.alloc ?_ (by simp; omega) _
            refine (F5.trans (HB2.out.mono F5.size)).trans ?_
            exact ((((((((Below.refl w.heap.size w2).setCell (by simp) _).setCell (by simp) _).setCell (by simp) _).setCell (by simp) _).setCell (by simp) _).setCell (by simp) _).setCell (by simp) _).setCell (by simp; omega) _
          · refine Blk.alloc ?_ _
            rw [← HBD.out]
            exact ((((((((G6.out.set 0 _).set 1 _).set 2 _).set 3 _).set 4 _).set 5 _).set 6 _).other (a := ⟨w.heap.size + 1 + 1, 0, none⟩) (by simp) _)
          · refine Blk.alloc ?_ _
            exact Blk.set ((((((((G7.out.other (a := ⟨w.heap.size + 1, 0, none⟩) (by simp) _).other (a := ⟨w.heap.size + 1, 1, none⟩) (by simp) _).other (a := ⟨w.heap.size + 1, 2, none⟩) (by simp) _).other (a := ⟨w.heap.size + 1, 3, none⟩) (by simp) _).other (a := ⟨w.heap.size + 1, 4, none⟩) (by simp) _).other (a := ⟨w.heap.size + 1, 5, none⟩) (by simp) _).other (a := ⟨w.heap.size + 1, 6, none⟩) (by simp) _)) 0 _
          · exact World.ownsRow.alloc (own_baseL (own_set (own_set (own_set (own_set (own_set (own_set (own_set (own_set HO.out ne6) ne6) ne6) ne6) ne6) ne6) ne6) ne7) hbase) _
      · have HH : Hid (hit nm ⟨tk, tb, tx, ta⟩ = none) := by unfold Hid hit; rw [← HD.out]; simp [hnm]
        have e1 : (dnm.toList == nm.toList) = false := by
          rw [beq_eq_false_iff_ne, Lib.toList_data, Lib.toList_data]
          exact fun e => hnm (ByteArray.ext (Array.toList_inj.1 e))
        clear hnm
        gi_wp2
        exact ⟨(KeepsFrom.of_grownBy (grownBy_below HBS.out none) (fun _ e => by cases e)).trans ((KeepsOthers.alloc _ _).from _), (HBS.out.mono HB.out.size).alloc HB2.out.size _, fun y hy => by
          rcases List.mem_append.1 hy with hy | hy
          · exact HMISS.out y hy
          · rw [List.mem_singleton.1 hy]; exact HH.out, HB2.out.alloc HB2.out.size _⟩
  case done =>
    rintro D ys W hD hys ⟨hmiss, hB⟩ hK
    have hfa : findK nm (ts.map (·.1)) m = none := by
      unfold findK
      rw [findAny_all nm ts m hml (by rw [← hys]; exact hmiss)]
      rfl
    have HN : Hid (O = none) := by unfold Hid; rw [HOO.out, hfa]
    have G6 := F2.below hB F2.lt
    have G7 := F3.below hB F3.lt
    have z0 := G6.cell 0
    have z1 := G6.cell 1
    have z2 := G6.cell 2
    have z3 := G6.cell 3
    have z4 := G6.cell 4
    have z5 := G6.cell 5
    have z6 := G6.cell 6
    have k0 := G6.frozen 0
    have k1 := G6.frozen 1
    have k2 := G6.frozen 2
    have k3 := G6.frozen 3
    have k4 := G6.frozen 4
    have k5 := G6.frozen 5
    have k6 := G6.frozen 6
    simp at z0 z1 z2 z3 z4 z5 z6
    have u0 := G7.cell 0
    have p0 := G7.frozen 0
    simp at u0
    have hDlt : w.heap.size + 4 ≤ D := by omega
    have HSZ := Lib.hid hsz
    clear hm hmI hsz hys hmiss hfa
    gi_wp2
    obtain ⟨W2, hW2⟩ : ∃ W2, W2 = ((((((((W.setCell ⟨w.heap.size + 1, 0, none⟩ (.string ⟨#[]⟩)).setCell ⟨w.heap.size + 1, 1, none⟩ (.int .i64 0)).setCell ⟨w.heap.size + 1, 2, none⟩ (.slice none 0 0)).setCell ⟨w.heap.size + 1, 3, none⟩ (.bool false)).setCell ⟨w.heap.size + 1, 4, none⟩ (.string ⟨#[]⟩)).setCell ⟨w.heap.size + 1, 5, none⟩ (.bool false)).setCell ⟨w.heap.size + 1, 6, none⟩ (.slice none 0 0)).setCell ⟨w.heap.size + 1 + 1, 0, none⟩ (.bool false)) := ⟨_, rfl⟩
    rw [← hW2]
    have N6 : Blk W2 (w.heap.size + 1) 122 zeroA := by
      rw [hW2]
      exact ((((((((G6.set 0 _).set 1 _).set 2 _).set 3 _).set 4 _).set 5 _).set 6 _).other (a := ⟨w.heap.size + 1 + 1, 0, none⟩) (by simp) _)
    have N7 : Blk W2 (w.heap.size + 2) 4 #[.bool false] := by
      rw [hW2]
      exact Blk.set ((((((((G7.other (a := ⟨w.heap.size + 1, 0, none⟩) (by simp) _).other (a := ⟨w.heap.size + 1, 1, none⟩) (by simp) _).other (a := ⟨w.heap.size + 1, 2, none⟩) (by simp) _).other (a := ⟨w.heap.size + 1, 3, none⟩) (by simp) _).other (a := ⟨w.heap.size + 1, 4, none⟩) (by simp) _).other (a := ⟨w.heap.size + 1, 5, none⟩) (by simp) _).other (a := ⟨w.heap.size + 1, 6, none⟩) (by simp) _)) 0 _
    have NB : Below w.heap.size w W2 := by
      rw [hW2]
      refine (F5.trans (hB.mono F5.size)).trans ?_
      exact ((((((((Below.refl w.heap.size W).setCell (by simp) _).setCell (by simp) _).setCell (by simp) _).setCell (by simp) _).setCell (by simp) _).setCell (by simp) _).setCell (by simp) _).setCell (by simp; omega) _
    have NK : W2.heap[D]? = some (.deferred (some [])) := by
      rw [hW2]
      exact ((((((((KeepsOthers.setCell W _ _).trans (KeepsOthers.setCell _ _ _)).trans (KeepsOthers.setCell _ _ _)).trans (KeepsOthers.setCell _ _ _)).trans (KeepsOthers.setCell _ _ _)).trans (KeepsOthers.setCell _ _ _)).trans (KeepsOthers.setCell _ _ _)).trans (KeepsOthers.setCell _ _ _)).same D _ hK rfl
    clear hW2
    refine ⟨by simp, .inl ⟨_, _, rfl, run_takeDeferred NK, ?_⟩⟩
    have P6 : Blk (W2.putObj D (.deferred none)) (w.heap.size + 1) 122 zeroA := N6.kept (grownBy_putObj' W2 D _) (fun e => by injection e with e; omega)
    have P7 : Blk (W2.putObj D (.deferred none)) (w.heap.size + 2) 4 #[.bool false] := N7.kept (grownBy_putObj' W2 D _) (fun e => by injection e with e; omega)
    have PB := NB.trans (belowK_b (w := w) (Nat.le_refl _) W2 D _ (.deferred none) (by omega) NK rfl rfl)
    obtain ⟨W3, hW3⟩ : ∃ W3, W3 = W2.putObj D (.deferred none) := ⟨_, rfl⟩
    rw [← hW3] at P6 P7 PB ⊢
    clear hW3
    have t0 := P6.cell 0
    have t1 := P6.cell 1
    have t2 := P6.cell 2
    have t3 := P6.cell 3
    have t4 := P6.cell 4
    have t5 := P6.cell 5
    have t6 := P6.cell 6
    have t7 := P7.cell 0
    simp at t0 t1 t2 t3 t4 t5 t6 t7
    refine ⟨.tuple #[zeroD, .bool false], ?_, PB, by rw [HN.out]; rfl⟩
    rw [results_cell2 rfl]
    unfold zeroD zeroA
    go_simp
  case stop =>
    rintro D cd pre W hD ⟨r, hr, hpre⟩ ⟨pre', x, d, hpx, hmiss, hhit, hBW, hcase⟩ hK
    have hfa : findAny nm (ts.map (·.1)) m = some (x.1, d) := findAny_hit nm ts m r hml hr pre' x d (by rw [← hpx, hpre]) hmiss hhit
    have hDlt : w.heap.size + 4 ≤ D := by omega
    rcases hcase with ⟨rfl, hgone, A', n', c', A4, n4, c4, G6, G7, hO⟩ | ⟨rfl, hgone, G6, G7⟩
    · have HN : Hid (O = some (x.1, d)) := by unfold Hid; rw [HOO.out]; unfold findK; rw [hfa]; simp [hgone]
      have P6 := G6.kept (grownBy_putObj' W D (.deferred none)) (fun e => by injection e with e; omega)
      have P7 := G7.kept (grownBy_putObj' W D (.deferred none)) (fun e => by injection e with e; omega)
      have PO := ownsRow_putObj hO (.deferred none) hK rfl
      have PB := hBW.trans (belowK_b (w := w) (Nat.le_refl _) W D _ (.deferred none) (by omega) hK rfl rfl)
      clear hfa hpx hmiss hhit hm hmI
      gi_wp2
      refine ⟨by simp, .inl ⟨_, _, rfl, run_takeDeferred hK, ?_⟩⟩
      obtain ⟨W3, hW3⟩ : ∃ W3, W3 = W.putObj D (.deferred none) := ⟨_, rfl⟩
      rw [← hW3] at P6 P7 PB PO ⊢
      clear hW3
      have t0 := P6.cell 0
      have t1 := P6.cell 1
      have t2 := P6.cell 2
      have t3 := P6.cell 3
      have t4 := P6.cell 4
      have t5 := P6.cell 5
      have t6 := P6.cell 6
      have t7 := P7.cell 0
      simp at t0 t1 t2 t3 t4 t5 t6 t7
      refine ⟨.tuple #[.agg #[.string d.nm, .int .i64 (x.1 : Nat), .slice A' n' c', .bool d.fn, .string (bodyB d), .bool d.gone, .slice A4 n4 c4], .bool true], ?_, PB, by rw [HN.out]; exact ⟨A', n', c', A4, n4, c4, rfl, PO⟩⟩
      rw [results_cell2 rfl]
      go_simp
    · have HN : Hid (O = none) := by unfold Hid; rw [HOO.out]; unfold findK; rw [hfa]; simp [hgone]
      have z0 := G6.cell 0
      have z1 := G6.cell 1
      have z2 := G6.cell 2
      have z3 := G6.cell 3
      have z4 := G6.cell 4
      have z5 := G6.cell 5
      have z6 := G6.cell 6
      have k0 := G6.frozen 0
      have k1 := G6.frozen 1
      have k2 := G6.frozen 2
      have k3 := G6.frozen 3
      have k4 := G6.frozen 4
      have k5 := G6.frozen 5
      have k6 := G6.frozen 6
      simp at z0 z1 z2 z3 z4 z5 z6
      have u0 := G7.cell 0
      have p0 := G7.frozen 0
      simp at u0
      clear hfa hpx hmiss hhit hm hmI
      gi_wp2
      obtain ⟨W2, hW2⟩ : ∃ W2, W2 = ((((((((W.setCell ⟨w.heap.size + 1, 0, none⟩ (.string ⟨#[]⟩)).setCell ⟨w.heap.size + 1, 1, none⟩ (.int .i64 0)).setCell ⟨w.heap.size + 1, 2, none⟩ (.slice none 0 0)).setCell ⟨w.heap.size + 1, 3, none⟩ (.bool false)).setCell ⟨w.heap.size + 1, 4, none⟩ (.string ⟨#[]⟩)).setCell ⟨w.heap.size + 1, 5, none⟩ (.bool false)).setCell ⟨w.heap.size + 1, 6, none⟩ (.slice none 0 0)).setCell ⟨w.heap.size + 1 + 1, 0, none⟩ (.bool false)) := ⟨_, rfl⟩
      rw [← hW2]
      have N6 : Blk W2 (w.heap.size + 1) 122 zeroA := by
        rw [hW2]
        exact ((((((((G6.set 0 _).set 1 _).set 2 _).set 3 _).set 4 _).set 5 _).set 6 _).other (a := ⟨w.heap.size + 1 + 1, 0, none⟩) (by simp) _)
      have N7 : Blk W2 (w.heap.size + 2) 4 #[.bool false] := by
        rw [hW2]
        exact Blk.set ((((((((G7.other (a := ⟨w.heap.size + 1, 0, none⟩) (by simp) _).other (a := ⟨w.heap.size + 1, 1, none⟩) (by simp) _).other (a := ⟨w.heap.size + 1, 2, none⟩) (by simp) _).other (a := ⟨w.heap.size + 1, 3, none⟩) (by simp) _).other (a := ⟨w.heap.size + 1, 4, none⟩) (by simp) _).other (a := ⟨w.heap.size + 1, 5, none⟩) (by simp) _).other (a := ⟨w.heap.size + 1, 6, none⟩) (by simp) _)) 0 _
      have NB : Below w.heap.size w W2 := by
        rw [hW2]
        refine hBW.trans ?_
        exact ((((((((Below.refl w.heap.size W).setCell (by simp) _).setCell (by simp) _).setCell (by simp) _).setCell (by simp) _).setCell (by simp) _).setCell (by simp) _).setCell (by simp) _).setCell (by simp; omega) _
      have NK : W2.heap[D]? = some (.deferred (some [])) := by
        rw [hW2]
        exact ((((((((KeepsOthers.setCell W _ _).trans (KeepsOthers.setCell _ _ _)).trans (KeepsOthers.setCell _ _ _)).trans (KeepsOthers.setCell _ _ _)).trans (KeepsOthers.setCell _ _ _)).trans (KeepsOthers.setCell _ _ _)).trans (KeepsOthers.setCell _ _ _)).trans (KeepsOthers.setCell _ _ _)).same D _ hK rfl
      clear hW2
      refine ⟨by simp, .inl ⟨_, _, rfl, run_takeDeferred NK, ?_⟩⟩
      have P6 : Blk (W2.putObj D (.deferred none)) (w.heap.size + 1) 122 zeroA := N6.kept (grownBy_putObj' W2 D _) (fun e => by injection e with e; omega)
      have P7 : Blk (W2.putObj D (.deferred none)) (w.heap.size + 2) 4 #[.bool false] := N7.kept (grownBy_putObj' W2 D _) (fun e => by injection e with e; omega)
      have PB := NB.trans (belowK_b (w := w) (Nat.le_refl _) W2 D _ (.deferred none) (by omega) NK rfl rfl)
      obtain ⟨W3, hW3⟩ : ∃ W3, W3 = W2.putObj D (.deferred none) := ⟨_, rfl⟩
      rw [← hW3] at P6 P7 PB ⊢
      clear hW3
      have t0 := P6.cell 0
      have t1 := P6.cell 1
      have t2 := P6.cell 2
      have t3 := P6.cell 3
      have t4 := P6.cell 4
      have t5 := P6.cell 5
      have t6 := P6.cell 6
      have t7 := P7.cell 0
      simp at t0 t1 t2 t3 t4 t5 t6 t7
      refine ⟨.tuple #[zeroD, .bool false], ?_, PB, by rw [HN.out]; rfl⟩
      rw [results_cell2 rfl]
      unfold zeroD zeroA
      go_simp

theorem lift_small : ∀ l : List Tz, (∀ t ∈ l, t.x.size ≤ 20001) → ∃ ts : List TzS, ts.map (·.1) = l
  | [], _ => ⟨[], rfl⟩
  | t :: l, h => by
    obtain ⟨ts, hts⟩ := lift_small l fun u hu => h u (List.mem_cons_of_mem _ hu)
    exact ⟨⟨t, h t (by simp)⟩ :: ts, by rw [List.map_cons, hts]⟩
theorem find_any (n0 : Nat) (A : Option Addr) (c : Nat) (l : List Tz) (nm : ByteArray) (at_ : Int) (w : World) (hG : LexG n0 w) (hl : l.length ≤ 600) (hx : ∀ t ∈ l, t.x.size ≤ 20001) (hlc : l.length ≤ c) (hR : ZRd w w.heap.size A l) (ha1 : -9223372036854775808 ≤ at_) (ha2 : at_ ≤ 9223372036854775807) :
    Calls Tryz.prog 65 #[.slice A l.length c, .string nm, .int .i64 at_] w fun e w' => Below w.heap.size w w' ∧ FindR w.heap.size (findK nm l (max 0 (min at_ l.length)).toNat) e w' := by
  obtain ⟨ts, rfl⟩ := lift_small l hx
  have h := callsIn_wide.1 (find_in 3 (Nat.le_refl _) n0 A c ts nm at_ w hG (by simpa using hl) (by simpa using hlc) hR ha1 ha2)
  rw [List.length_map]
  exact h

/-- what Find gives -/
def FindM (B : Nat) (o : Option (Nat × Dfn)) (e : Ending) (w' : World) : Prop :=
  match o with
  | none => e = .returned (.tuple #[zeroM, .bool false])
  | some (i, d) => ∃ A n c, e = .returned (.tuple #[.agg #[.string d.nm, .int .i64 (i : Nat), .slice A n c, .bool d.fn, .string (bodyB d), .bool d.gone], .bool true]) ∧ w'.ownsRow B 9 1 (.slice A n c) d.ps.length (d.ps.map Value.string)

set_option maxHeartbeats 1000000 in
set_option maxRecDepth 100000 in
theorem Find_any (n0 : Nat) (A : Option Addr) (c : Nat) (l : List Tz) (nm : ByteArray) (at_ : Int) (w : World) (hG : LexG n0 w) (hl : l.length ≤ 600) (hx : ∀ t ∈ l, t.x.size ≤ 20001) (hlc : l.length ≤ c) (hR : ZRd w w.heap.size A l) (ha1 : -9223372036854775808 ≤ at_) (ha2 : at_ ≤ 9223372036854775807) :
    Calls Tryz.prog 35 #[.slice A l.length c, .string nm, .int .i64 at_] w fun e w' => Below w.heap.size w w' ∧ FindM w.heap.size (findK nm l (max 0 (min at_ l.length)).toNat) e w' := by
  obtain ⟨W0, hW0⟩ : ∃ W0, W0 = w.alloc (.cells zeroA6 74) := ⟨_, rfl⟩
  have F2 : Blk W0 w.heap.size 74 zeroA6 := by rw [hW0]; exact Blk.new w _ _
  have F3 : Below w.heap.size w W0 := by rw [hW0]; exact (Below.refl _ _).alloc (Nat.le_refl _) _
  have KO := find_any n0 A c l nm at_ W0 (hG.below F3) hl hx hlc ((hR.below F3).up F3.size) ha1 ha2
  obtain ⟨D, hD⟩ : ∃ D, D = findK nm l (max 0 (min at_ (l.length : Int))).toNat := ⟨_, rfl⟩
  rw [← hD] at KO ⊢
  have HKO := Lib.hid KO
  have HF2 := Lib.hid F2
  have HF3 := Lib.hid F3
  have HW0 := Lib.hid hW0
  obtain ⟨n, hn⟩ : ∃ n, n = l.length := ⟨_, rfl⟩
  rw [← hn] at HKO ⊢
  clear KO F2 F3 hD hW0 hG hx hl hlc hR hn
  go_enter Tryz.func35, Tryz.ntmps35
  go_upto_region 1 with (fail)
  rw [← HW0.out]
  go_wp2_with fail
  refine HKO.out.mono ?_
  rintro e w2 ⟨hb2, hr⟩
  have M4 : Hid (Blk w2 w.heap.size 74 zeroA6) := HF2.out.below hb2 HF2.out.lt
  have MW : Hid (Below w.heap.size w w2) := HF3.out.trans (hb2.mono HF3.out.size)
  have HSZ := Lib.hid HF3.out.size
  clear hb2 HKO HF2 HF3
  have z0 := M4.out.cell 0
  have z1 := M4.out.cell 1
  have z2 := M4.out.cell 2
  have z3 := M4.out.cell 3
  have z4 := M4.out.cell 4
  have z5 := M4.out.cell 5
  have k0 := M4.out.frozen 0
  have k1 := M4.out.frozen 1
  have k2 := M4.out.frozen 2
  have k3 := M4.out.frozen 3
  have k4 := M4.out.frozen 4
  have k5 := M4.out.frozen 5
  simp at z0 z1 z2 z3 z4 z5
  have hlt := M4.out.lt
  cases D with
  | none =>
    have he : e = .returned (.tuple #[zeroD, .bool false]) := hr
    subst he
    unfold zeroD
    clear hr
    go_wp2_with fail
    try simp only [Exit.inBlock, Exit.then]
    refine bodyPost_ret (v := .tuple #[zeroM, .bool false]) ?_ rfl ⟨?_, rfl⟩
    · rw [results_cell_tmp rfl]
      unfold zeroM zeroA6
      go_simp
    · refine MW.out.trans ?_
      exact ((((((((Below.refl w.heap.size w2).setCell (by simp) _).setCell (by simp) _).setCell (by simp) _).setCell (by simp) _).setCell (by simp) _).setCell (by simp) _).alloc (by simp; omega) _)
  | some q =>
    obtain ⟨i, d⟩ := q
    obtain ⟨A5, n5, ca5, A6, n6, c6, rfl, hO⟩ := hr
    have HO := Lib.hid hO
    clear hO
    obtain ⟨dnm, dps, dfn, dbw, dgn⟩ := d
    simp only at HO
    obtain ⟨bd, hbd⟩ : ∃ bd, bd = bodyB ⟨dnm, dps, dfn, dbw, dgn⟩ := ⟨_, rfl⟩
    rw [← hbd]
    have HBD := Lib.hid hbd
    clear hbd
    go_wp2_with fail
    try simp only [Exit.inBlock, Exit.then]
    refine bodyPost_ret (v := .tuple #[.agg #[.string dnm, .int .i64 (i : Nat), .slice A5 n5 ca5, .bool dfn, .string bd, .bool dgn], .bool true]) ?_ rfl ⟨?_, ?_⟩
    · rw [results_cell_tmp rfl]
      go_simp
    · refine MW.out.trans ?_
      exact ((((((((Below.refl w.heap.size w2).setCell (by simp) _).setCell (by simp) _).setCell (by simp) _).setCell (by simp) _).setCell (by simp) _).setCell (by simp) _).alloc (by simp; omega) _)
    · have ne : ∀ q, (Value.slice A5 n5 ca5).ownBlock = some q → q ≠ w.heap.size := fun q e h => by
        subst h
        obtain ⟨cur, hcur⟩ := own_typeL HO.out e
        have h2 : w2.heap[w.heap.size]? = _ := M4.out
        rw [hcur] at h2
        injection h2 with h2
        injection h2 with _ h2
        exact absurd h2 (by decide)
      refine ⟨A5, n5, ca5, by rw [HBD.out], own_baseL (World.ownsRow.alloc (own_set (own_set (own_set (own_set (own_set (own_set HO.out ne) ne) ne) ne) ne) ne) _) HSZ.out⟩

end Go.Proofs.YtjdpkhjoecfhlaaGreatDoor
