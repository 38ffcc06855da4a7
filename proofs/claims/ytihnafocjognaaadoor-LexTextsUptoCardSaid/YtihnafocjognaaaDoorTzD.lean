/- Lex: Text and Strip over any tokens, the program's and the document's. -/
import Derived.Test.YtihnafocjognaaaDoorTzC
import Derived.RegionTactic
import Derived.Deep.AppendLies
namespace Go.Lib
variable {P : Program} (w : World)

/-- 'append(b, s...)', b a slice of bytes that the call owns, s a string: at a step of a region that draws its order -/
theorem step_append_own_str {ops : Array Oper} {o : Oper} {a : Act} {K : Act → World → Prop} {Q : Exit → Act → World → Prop} {E : Prop} (hgd : o.guard = none) (sl x : Operand) (t u : TypeId)
    (ho : o.op = .call { callee := .builtin .append, args := #[sl, x], argTypes := #[t, u] })
    (base : Nat) (e : TypeId) (i : TypeInfo) (ht : P.underlying t = some (.slice e)) (hu : P.underlying u = some .string) (hi : P.info? e = some i) (hz : i.zero = some (.int .u8 0))
    (hsize : i.size = 1) (hby : i.bytes = 1)
    (v : Value) (n : Nat) (xs : List Value) (hs : a.eval sl = v) (hown : w.ownsRow base e 1 v n xs) (s : ByteArray) (hx : a.eval x = .string s)
    (h63 : n + s.size ≤ maxLen) (hbytes : n + s.size ≤ 140737488355328) (hbase : base ≤ w.heap.size)
    (h : ∀ v' w', w'.ownsRow base e 1 v' (n + s.size) (xs ++ strCells s) → w.grownBy w' v.ownBlock → K (a.put o.dst v') w') :
    if Region.wanted o (yielded ops a.tmps) = true then Oper.wp P o a w K Q else E := by
  have hw : Region.wanted o (yielded ops a.tmps) = true := by simp [Region.wanted, hgd]
  rw [if_pos hw]
  obtain ⟨v', w', hr, h2, h3, h4⟩ := run_append_own_string (P := P) w base t u o.type e i ht hu hi hz hsize hby v n xs hown s h63 hbytes hbase
  unfold Oper.wp execOp
  simp only [ho, resolve, invoke, builtin, Sem.run_bind, Sem.run_pure, Result.andThen_ok, List.map_toArray, List.map_cons, List.map_nil, hs, hx, hr]
  exact h v' w' h2 h3

end Go.Lib

namespace Go.Proofs.YtihnafocjognaaaDoor
open Go.RowKit Go.Maps Go.Shelf

/-- the bytes of tokens -/
def textZ : List Tz → List UInt8
  | [] => []
  | t :: l => t.b.data.toList ++ (t.x.data.toList ++ textZ l)
theorem textZ_append (l r : List Tz) : textZ (l ++ r) = textZ l ++ textZ r := by
  induction l with
  | nil => rfl
  | cons t l ih => simp [textZ, ih]
theorem textZ_take (l : List Tz) (k : Nat) (h : k < l.length) : textZ (l.take (k + 1)) = textZ (l.take k) ++ l[k].b.data.toList ++ l[k].x.data.toList := by
  rw [List.take_succ_eq_append_getElem h, textZ_append]
  simp [textZ]
theorem textZ_len (l : List Tz) : (textZ l).length = sumZ l := by
  induction l with
  | nil => rfl
  | cons t l ih => simp [textZ, sumZ, ih]; omega

def keepKz (t : Tz) : Bool := decide (t.k ≠ 7) && decide (t.k ≠ 0)
def keepZ (l : List Tz) : List Tz := l.filter keepKz
theorem keepZ_take (l : List Tz) (k : Nat) (h : k < l.length) : keepZ (l.take (k + 1)) = if keepKz l[k] = true then keepZ (l.take k) ++ [l[k]] else keepZ (l.take k) := by
  unfold keepZ
  rw [List.take_succ_eq_append_getElem h, List.filter_append]
  by_cases g : keepKz l[k] = true
  · rw [if_pos g]; simp [g]
  · rw [if_neg g]; simp [g]
theorem keepZ_len (l : List Tz) : (keepZ l).length ≤ l.length := List.length_filter_le _ _
def stripZ (l : List Tz) : List ByteArray := (keepZ l).map Tz.x
def stripZV (l : List Tz) : List Value := (stripZ l).map Value.string

set_option maxHeartbeats 4000000 in
set_option maxRecDepth 100000 in
theorem stripZ_any (A : Option Addr) (c : Nat) (l : List Tz) (w : World) (hl : l.length ≤ 60000) (h : ZRd w w.heap.size A l) :
    Calls Tryd.prog 17 #[.slice A l.length c] w fun e w' => ∃ v, e = .returned v ∧ w'.ownsRow w.heap.size 9 1 v (stripZ l).length (stripZV l) ∧ Below w.heap.size w w' := by
  obtain ⟨i0, hi, hz0, hz1, hz2⟩ := info_parts infoStrL
  have HR := Lib.hid h
  have HLL := Lib.hid hl
  clear h hl
  go_enter Tryd.func17, Tryd.ntmps17
  go_wp2_with fail
  go_loopw [3, 8] (fun v vi wr => ∃ (k n : Nat) (acc : List ByteArray), k ≤ l.length ∧ vi = .int .i64 k ∧ n ≤ k ∧ Hid (acc = (keepZ (l.take k)).map Tz.x ∧ acc.length = n) ∧ Hid (wr.ownsRow w.heap.size 9 1 v n (acc.map Value.string)) ∧ Below w.heap.size w wr ∧ Hid (∃ A c, v = .slice A n c)) (fun _ vi _ => l.length - (intOf vi).toNat)
  case atStart => exact ⟨0, 0, [], Nat.zero_le _, rfl, Nat.le_refl _, ⟨rfl, rfl⟩, World.ownsRow_nil _ _ _ _, Below.refl _ _, ⟨none, 0, rfl⟩⟩
  case round =>
    obtain ⟨k, n, acc, hk, rfl, hn, hacc, hO, hb, hform⟩ := hrel
    obtain ⟨A1, c1, rfl⟩ := hform.out
    clear hform
    by_cases hlt : k < l.length
    · obtain ⟨b, off, rfl, hB, d0, d1, d2, d3⟩ := (HR.out.below hb).at_ k hlt
      have hst := keepZ_take l k hlt
      have hkk : (l[k].k = 7 ∧ keepKz l[k] = false) ∨ (l[k].k = 0 ∧ keepKz l[k] = false) ∨ (¬ l[k].k = 7 ∧ ¬ l[k].k = 0 ∧ keepKz l[k] = true) := by
        unfold keepKz
        by_cases q1 : l[k].k = 7
        · exact .inl ⟨q1, by simp [q1]⟩
        · by_cases q2 : l[k].k = 0
          · exact .inr (.inl ⟨q2, by simp [q2]⟩)
          · exact .inr (.inr ⟨q1, q2, by simp [q1, q2]⟩)
      have hltI : (k : Int) < l.length := by omega
      have hkl := HLL.out
      have hkM : (k : Int) < 60000 := by omega
      generalize l[k] = t at *
      obtain ⟨tk, tb, tx, ta⟩ := t
      simp only at d0 d1 d2 d3 hkk
      have HACC := Lib.hid hacc.out
      have HST := Lib.hid hst
      have HO := Lib.hid hO.out
      have hsz := hb.size
      have HN := Lib.hid hn
      have HKL := Lib.hid hkl
      clear hst hacc hO hn hkl
      rcases hkk with ⟨rfl, g⟩ | ⟨rfl, g⟩ | ⟨g1, g2, g⟩
      · have HG := Lib.hid g
        clear g
        go_wp2
        go_roundw
        case rel =>
          refine ⟨k + 1, n, acc, by omega, by go_num, by have := HN.out; omega, ?_, ?_, hb.alloc hb.size _, ⟨A1, c1, rfl⟩⟩
          · have h := HST.out
            rw [if_neg (by rw [HG.out]; decide)] at h
            unfold Hid
            rw [h]
            exact HACC.out
          · exact HO.out.alloc _
        case measure => simp [intOf]; omega
      · have HG := Lib.hid g
        clear g
        go_wp2
        go_roundw
        case rel =>
          refine ⟨k + 1, n, acc, by omega, by go_num, by have := HN.out; omega, ?_, ?_, hb.alloc hb.size _, ⟨A1, c1, rfl⟩⟩
          · have h := HST.out
            rw [if_neg (by rw [HG.out]; decide)] at h
            unfold Hid
            rw [h]
            exact HACC.out
          · exact HO.out.alloc _
        case measure => simp [intOf]; omega
      · have i1 : ¬ tk = 7 := by omega
        have i2 : ¬ tk = 0 := by omega
        have i3 : (tk == 7) = false := by simp; omega
        have i4 : (tk == 0) = false := by simp; omega
        have i5 : (tk != 7) = true := by simp; omega
        have i6 : (tk != 0) = true := by simp; omega
        have hnw : ∀ j u, (#[.string tx] : Array Value).toList[j]? = some u → ((wr.alloc (.cells #[.int .i64 tk, .string tb, .string tx, .int .i64 ta] 40)).alloc (.cells #[.string tx] 9)).cell? ((⟨wr.heap.size + 1, 0, none⟩ : Addr).add j) = some u := by
          have := Blk.news (Blk.new (wr.alloc (.cells #[.int .i64 tk, .string tb, .string tx, .int .i64 ta] 40)) 9 #[.string tx])
          rw [World.size_alloc] at this
          exact this
        have HNW := Lib.hid hnw
        have hwk : IntKind.i64.wrap ((k : Int) + 1) = (k : Int) + 1 := IntWalk.i64_in _ (by omega)
        have HM1 : Hid (n + 1 ≤ maxLen) := by unfold Hid maxLen; have := HN.out; omega
        have HM2 : Hid ((n + 1) * 16 ≤ 140737488355328) := by unfold Hid; have := HN.out; omega
        have HM3 : Hid (w.heap.size ≤ ((wr.alloc (.cells #[.int .i64 tk, .string tb, .string tx, .int .i64 ta] 40)).alloc (.cells #[.string tx] 9)).heap.size) := by unfold Hid; simp; omega
        have HG := Lib.hid g
        clear g g1 g2 hnw hkM
        go_wp2_with (at_builtin; go_loud (refine wpList_append_own _ rfl _ _ 34 rfl w.heap.size 9 i0 (.string ⟨#[]⟩) 1 16 Tryd.underlying34 hi hz0 hz1 hz2 rfl (by decide) _ n (acc.map Value.string) rfl ((HO.out.alloc _).alloc _) ⟨wr.heap.size + 1, 0, none⟩ 1 1 [.string tx] rfl rfl HNW.out (by simp [Value.oneCell']) HM1.out HM2.out HM3.out ?_); intro v' w1 hown' hgr _; have HOW := Lib.hid hown'; have HGR := Lib.hid hgr; clear hown' hgr)
        go_wp2
        go_roundw
        case rel =>
          obtain ⟨A2, c2, e2⟩ := own_len HOW.out
          have HBN := Lib.hid (((hb.alloc hb.size _).alloc (by have := hb.size; simp; omega) _).grown HGR.out (by have := hb.size; simp; omega) (fun k e => (HO.out.lt k e).1))
          refine ⟨k + 1, n + 1, acc ++ [tx], by omega, by go_num, by have := HN.out; omega, ?_, ?_, HBN.out, ⟨A2, c2, e2⟩⟩
          · have h := HST.out
            rw [if_pos HG.out] at h
            unfold Hid
            rw [h, List.map_append, ← HACC.out.1, List.length_append, HACC.out.2]
            exact ⟨rfl, rfl⟩
          · unfold Hid
            rw [List.map_append]
            exact HOW.out
        case measure => simp [intOf]; omega
    · obtain rfl : k = l.length := by omega
      have hnk : ¬ (l.length : Int) < l.length := by omega
      rw [List.take_length] at hacc
      obtain ⟨h1, h2⟩ := hacc.out
      have hO2 := hO.out
      rw [h1] at hO2
      have hO2 : wr.ownsRow w.heap.size 9 1 (.slice A1 n c1) n (stripZV l) := hO2
      have h3 : n = (stripZ l).length := by rw [← h2, h1]; rfl
      have HO2 := Lib.hid hO2
      have HN3 := Lib.hid h3
      clear hO2 h1 h2 h3 hO hacc hn
      go_wp2
      go_ret
      exact ⟨_, rfl, by rw [← HN3.out]; exact HO2.out, hb⟩

set_option maxHeartbeats 4000000 in
set_option maxRecDepth 100000 in
theorem textZ_any (A : Option Addr) (c : Nat) (l : List Tz) (w : World) (hl : l.length ≤ 40100) (hs : sumZ l ≤ 200100) (h : ZRd w w.heap.size A l) :
    Calls Tryd.prog 14 #[.slice A l.length c] w fun e w' => e = .returned (.string ⟨(textZ l).toArray⟩) ∧ Below w.heap.size w w' := by
  have HR := Lib.hid h
  have hlI : (l.length : Int) ≤ 40100 := by omega
  have hln : ∀ k, (textZ (l.take k)).length ≤ 200100 := fun k => by rw [textZ_len]; exact Nat.le_trans (begZ_le l k) hs
  have HLN := Lib.hid hln
  clear h hl hs hln
  go_enter Tryd.func14, Tryd.ntmps14
  go_wp2_with fail
  have hB0 := Bld.new w
  go_loopw [8] (fun i wr => ∃ k : Nat, k ≤ l.length ∧ i = .int .i64 k ∧ Bld wr w.heap.size w.heap.size (textZ (l.take k)) ∧ Below w.heap.size w wr) (fun i _ => l.length - (intOf i).toNat)
  case atStart => exact ⟨0, Nat.zero_le _, rfl, hB0, (Below.refl _ _).alloc (Nat.le_refl _) _⟩
  case round =>
    clear hB0
    obtain ⟨k, hk, rfl, hbl, hb⟩ := hrel
    by_cases hlt : k < l.length
    · obtain ⟨b, off, eA, hB, c0, c1, c2, c3⟩ := (HR.out.below hb).at_ k hlt
      cases eA
      have hst := textZ_take l k hlt
      have h1 := HLN.out k
      have h2 := HLN.out (k + 1)
      rw [hst, List.length_append, List.length_append] at h2
      have zb : l[k].b.size ≤ 200100 := by simp at h2; omega
      have zx : l[k].x.size ≤ 200100 := by simp at h2; omega
      have zd : (textZ (l.take k) ++ l[k].b.data.toList).length ≤ 400200 := by rw [List.length_append]; simp; omega
      generalize l[k].b = tb at *
      generalize l[k].x = tx at *
      generalize l[k].a = ta at *
      generalize l[k].k = tk at *
      generalize hd2 : textZ (l.take (k + 1)) = d2 at *
      generalize textZ (l.take k) = d0 at *
      have HD2 := Lib.hid hd2
      have HST := Lib.hid hst
      have hltI : (k : Int) < l.length := by omega
      have hL := hbl.lt
      clear h2 hd2 hst
      go_wp2_with fail
      have hx := heap_alloc_new wr (Obj.cells #[Value.int IntKind.i64 tk, Value.string tb, Value.string tx, Value.int IntKind.i64 ta] 40)
      refine (writeString_any w.heap.size w.heap.size d0 tb _ (hbl.alloc _) (by omega) (by simp; omega)).mono ?_
      rintro e w2 ⟨rfl, hbl2, hk2⟩
      have hx2 := hk2.block hx (by omega) (by decide)
      have cx2 : w2.cell? ⟨wr.heap.size, 2, none⟩ = some (.string tx) := cell_of_row w2 _ _ _ _ (0, 0) hx2
      have hsz2 : w.heap.size ≤ w2.heap.size := by have := hbl2.lt; omega
      clear hx hx2 c0 c1 c2 c3
      go_wp2_with fail
      refine (writeString_any w.heap.size w.heap.size (d0 ++ tb.data.toList) tx _ hbl2 (by omega) hsz2).mono ?_
      rintro e w3 ⟨rfl, hbl3, hk3⟩
      rw [← HST.out] at hbl3
      have HB3 := Lib.hid (((hb.alloc (by omega) _).trans hk2.1).trans hk3.1)
      clear cx2 hb hk2 hk3 hbl hbl2
      go_wp2
      go_roundw
      case rel => exact ⟨k + 1, by omega, by go_num, by rw [HD2.out]; exact hbl3, HB3.out⟩
      case measure => simp [intOf]; omega
    · have hk2 : k = l.length := by omega
      subst hk2
      rw [List.take_length] at hbl
      have hL := hbl.lt
      have g2 : ¬ (l.length : Int) < l.length := by omega
      go_wp2_with fail
      refine (bstring_any w.heap.size w.heap.size _ _ hbl (by omega)).mono ?_
      rintro e w3 ⟨rfl, hk3⟩
      go_wp2
      go_ret
      exact ⟨rfl, hb.trans hk3.1⟩

end Go.Proofs.YtihnafocjognaaaDoor
