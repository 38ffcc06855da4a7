/- Lex: Strip, over any tokens. Rows of unlike elements are apart; a row of bytes as a text. -/
import Derived.Test.YtjdpkhjoecfhlaaGreatDoorLexEq
import Derived.Lib.AppendStr
import Derived.Laws.BytesArg
import Derived.Laws.IdiomStrings
import Derived.Deep.RegionHeld3
namespace Go.Proofs.YtjdpkhjoecfhlaaGreatDoor
open Go.RowKit Go.Maps Go.Shelf

theorem infoU8L : (Tryz.prog.info? 5).map (fun i => (i.zero, i.size, i.bytes)) = some (some (.int .u8 0), 1, 1) := by kernel_rfl
theorem infoIntL : (Tryz.prog.info? 3).map (fun i => (i.zero, i.size, i.bytes)) = some (some (.int .i64 0), 1, 8) := by kernel_rfl

theorem own_typeL {w : World} {base n : Nat} {e : TypeId} {k g : Nat} {v : Value} {xs : List Value} (h : w.ownsRow base e k v n xs) (hg : v.ownBlock = some g) : ∃ cur, w.heap[g]? = some (.cells cur e (0, 0)) := by
  rcases h.2 with ⟨e1, e0⟩ | ⟨g', cap, cur, e1, _, h2, _⟩
  · subst e1; cases hg
  · subst e1
    injection hg with hg
    subst hg
    exact ⟨cur, h2⟩
/-- a row of other elements is kept -/
theorem own_apartL {w w' : World} {b1 b2 n1 n2 k1 k2 : Nat} {e1 e2 : TypeId} {v1 v2 : Value} {xs1 xs2 : List Value} (h1 : w.ownsRow b1 e1 k1 v1 n1 xs1) (h2 : w.ownsRow b2 e2 k2 v2 n2 xs2) (hne : e1 ≠ e2) (hg : w.grownBy w' v2.ownBlock) : w'.ownsRow b1 e1 k1 v1 n1 xs1 := by
  refine h1.kept hg ?_
  cases h : v1.ownBlock with
  | none => exact .inl rfl
  | some g =>
    refine .inr fun e => ?_
    obtain ⟨c1, a⟩ := own_typeL h1 h
    obtain ⟨c2, b⟩ := own_typeL h2 e.symm
    rw [a] at b
    injection b with b
    injection b with _ b
    exact hne b
/-- 'string(b)' of a row of bytes that is owned -/
theorem conv_ownL {w : World} {base : Nat} {v : Value} {l : List UInt8} (h : w.ownsRow base 5 1 v l.length (Lib.byteCells l)) : (convert 49 9 v).run Tryz.prog w = .ok (.string ⟨l.toArray⟩) w := by
  rcases h.2 with ⟨e, e0⟩ | ⟨g, cap, cur, e, hb, hg, hn, hc, hs, ht⟩
  · have : l = [] := List.eq_nil_of_length_eq_zero e0
    subst this
    subst e
    exact run_convert_bytes_nil (w := w) 49 5 Tryz.underlying49 Tryz.underlying5 0 0 9 Tryz.underlying9
  · subst e
    refine run_convert_bytes_back w 49 9 5 ⟨g, 0, none⟩ cap l Tryz.underlying49 Tryz.underlying5 Tryz.underlying9 fun j hj => ?_
    exact h.cells rfl j _ (by simp [Lib.byteCells, List.getElem?_map, List.getElem?_eq_getElem hj])
theorem strCells_bytesL (s : ByteArray) : Lib.strCells s = Lib.byteCells s.data.toList := rfl
theorem byteCells_appendL (a b : List UInt8) : Lib.byteCells (a ++ b) = Lib.byteCells a ++ Lib.byteCells b := by simp [Lib.byteCells]

/-- the tokens that are neither a preprocessor line nor the end -/
def keepK (t : Tk) : Bool := decide (t.k ≠ 7) && decide (t.k ≠ 0)
def keepT (l : List Tk) : List Tk := l.filter keepK
theorem keepT_take (l : List Tk) (k : Nat) (h : k < l.length) : keepT (l.take (k + 1)) = if keepK l[k] = true then keepT (l.take k) ++ [l[k]] else keepT (l.take k) := by
  unfold keepT
  rw [List.take_succ_eq_append_getElem h, List.filter_append]
  by_cases g : keepK l[k] = true
  · rw [if_pos g]; simp [g]
  · rw [if_neg g]; simp [g]
theorem keepT_len (l : List Tk) : (keepT l).length ≤ l.length := List.length_filter_le _ _

/-- the texts of these, in memory -/
def stripL (l : List Tk) : List ByteArray := (keepT l).map Tk.x
def stripV (l : List Tk) : List Value := (stripL l).map Value.string

set_option maxHeartbeats 4000000 in
set_option maxRecDepth 100000 in
theorem strip_any (A : Option Addr) (c : Nat) (l : List Tk) (w : World) (hl : l.length ≤ 60000) (h : TRd w w.heap.size A l) :
    Calls Tryz.prog 196 #[.slice A l.length c] w fun e w' => ∃ v, e = .returned v ∧ w'.ownsRow w.heap.size 9 1 v (stripL l).length (stripV l) ∧ Below w.heap.size w w' := by
  obtain ⟨i0, hi, hz0, hz1, hz2⟩ := info_parts infoStrL
  have HR := Lib.hid h
  have HLL := Lib.hid hl
  clear h hl
  go_enter Tryz.func196, Tryz.ntmps196
  go_wp2_with fail
  go_loopw [3, 8] (fun v vi wr => ∃ (k n : Nat) (acc : List ByteArray), k ≤ l.length ∧ vi = .int .i64 k ∧ n ≤ k ∧ Hid (acc = (keepT (l.take k)).map Tk.x ∧ acc.length = n) ∧ Hid (wr.ownsRow w.heap.size 9 1 v n (acc.map Value.string)) ∧ Below w.heap.size w wr ∧ Hid (∃ A c, v = .slice A n c)) (fun _ vi _ => l.length - (intOf vi).toNat)
  case atStart => exact ⟨0, 0, [], Nat.zero_le _, rfl, Nat.le_refl _, ⟨rfl, rfl⟩, World.ownsRow_nil _ _ _ _, Below.refl _ _, ⟨none, 0, rfl⟩⟩
  case round =>
    obtain ⟨k, n, acc, hk, rfl, hn, hacc, hO, hb, hform⟩ := hrel
    obtain ⟨A1, c1, rfl⟩ := hform.out
    clear hform
    by_cases hlt : k < l.length
    · obtain ⟨b, off, rfl, hB, d0, d1, d2, d3⟩ := (HR.out.below hb).at_ k hlt
      have hst := keepT_take l k hlt
      have hkk : (l[k].k = 7 ∧ keepK l[k] = false) ∨ (l[k].k = 0 ∧ keepK l[k] = false) ∨ (¬ l[k].k = 7 ∧ ¬ l[k].k = 0 ∧ keepK l[k] = true) := by
        unfold keepK
        by_cases q1 : l[k].k = 7
        · exact .inl ⟨q1, by simp [q1]⟩
        · by_cases q2 : l[k].k = 0
          · exact .inr (.inl ⟨q2, by simp [q2]⟩)
          · exact .inr (.inr ⟨q1, q2, by simp [q1, q2]⟩)
      have hltI : (k : Int) < l.length := by omega
      have hkl := HLL.out
      have hkM : (k : Int) < 60000 := by omega
      generalize l[k] = t at *
      obtain ⟨tk, tb, tx, ta⟩ := t
      simp only at d0 d1 d2 d3 hkk
      have HACC := Lib.hid hacc.out
      have HST := Lib.hid hst
      have HO := Lib.hid hO.out
      have hsz := hb.size
      have HN := Lib.hid hn
      have HKL := Lib.hid hkl
      clear hst hacc hO hn hkl
      rcases hkk with ⟨rfl, g⟩ | ⟨rfl, g⟩ | ⟨g1, g2, g⟩
      · have HG := Lib.hid g
        clear g
        go_wp2
        go_roundw
        case rel =>
          refine ⟨k + 1, n, acc, by omega, by go_num, by have := HN.out; omega, ?_, ?_, hb.alloc hb.size _, ⟨A1, c1, rfl⟩⟩
          · have h := HST.out
            rw [if_neg (by rw [HG.out]; decide)] at h
            unfold Hid
            rw [h]
            exact HACC.out
          · exact HO.out.alloc _
        case measure => simp [intOf]; omega
      · have HG := Lib.hid g
        clear g
        go_wp2
        go_roundw
        case rel =>
          refine ⟨k + 1, n, acc, by omega, by go_num, by have := HN.out; omega, ?_, ?_, hb.alloc hb.size _, ⟨A1, c1, rfl⟩⟩
          · have h := HST.out
            rw [if_neg (by rw [HG.out]; decide)] at h
            unfold Hid
            rw [h]
            exact HACC.out
          · exact HO.out.alloc _
        case measure => simp [intOf]; omega
      · have i1 : ¬ (tk : Int) = 7 := by omega
        have i2 : ¬ (tk : Int) = 0 := by omega
        have i3 : ((tk : Int) == 7) = false := by simp; omega
        have i4 : ((tk : Int) == 0) = false := by simp; omega
        have i5 : ((tk : Int) != 7) = true := by simp; omega
        have i6 : ((tk : Int) != 0) = true := by simp; omega
        have hnw : ∀ j u, (#[.string tx] : Array Value).toList[j]? = some u → ((wr.alloc (.cells #[.int .i64 tk, .string tb, .string tx, .int .i64 ta] 29)).alloc (.cells #[.string tx] 9)).cell? ((⟨wr.heap.size + 1, 0, none⟩ : Addr).add j) = some u := by
          have := Blk.news (Blk.new (wr.alloc (.cells #[.int .i64 tk, .string tb, .string tx, .int .i64 ta] 29)) 9 #[.string tx])
          rw [World.size_alloc] at this
          exact this
        have HNW := Lib.hid hnw
        have hwk : IntKind.i64.wrap ((k : Int) + 1) = (k : Int) + 1 := IntWalk.i64_in _ (by omega)
        have HM1 : Hid (n + 1 ≤ maxLen) := by unfold Hid maxLen; have := HN.out; omega
        have HM2 : Hid ((n + 1) * 16 ≤ 140737488355328) := by unfold Hid; have := HN.out; omega
        have HM3 : Hid (w.heap.size ≤ ((wr.alloc (.cells #[.int .i64 tk, .string tb, .string tx, .int .i64 ta] 29)).alloc (.cells #[.string tx] 9)).heap.size) := by unfold Hid; simp; omega
        have HG := Lib.hid g
        clear g g1 g2 hnw hkM
        go_wp2_with (at_builtin; go_loud (refine wpList_append_own _ rfl _ _ 59 rfl w.heap.size 9 i0 (.string ⟨#[]⟩) 1 16 Tryz.underlying59 hi hz0 hz1 hz2 rfl (by decide) _ n (acc.map Value.string) rfl ((HO.out.alloc _).alloc _) ⟨wr.heap.size + 1, 0, none⟩ 1 1 [.string tx] rfl rfl HNW.out (by simp [Value.oneCell']) HM1.out HM2.out HM3.out ?_); intro v' w1 hown' hgr _; have HOW := Lib.hid hown'; have HGR := Lib.hid hgr; clear hown' hgr)
        go_wp2
        go_roundw
        case rel =>
          obtain ⟨A2, c2, e2⟩ := own_len HOW.out
          have HBN := Lib.hid (((hb.alloc hb.size _).alloc (by have := hb.size; simp; omega) _).grown HGR.out (by have := hb.size; simp; omega) (fun k e => (HO.out.lt k e).1))
          refine ⟨k + 1, n + 1, acc ++ [tx], by omega, by go_num, by have := HN.out; omega, ?_, ?_, HBN.out, ⟨A2, c2, e2⟩⟩
          · have h := HST.out
            rw [if_pos HG.out] at h
            unfold Hid
            rw [h, List.map_append, ← HACC.out.1, List.length_append, HACC.out.2]
            exact ⟨rfl, rfl⟩
          · unfold Hid
            rw [List.map_append]
            exact HOW.out
        case measure => simp [intOf]; omega
    · obtain rfl : k = l.length := by omega
      have hnk : ¬ (l.length : Int) < l.length := by omega
      rw [List.take_length] at hacc
      obtain ⟨h1, h2⟩ := hacc.out
      have hO2 := hO.out
      rw [h1] at hO2
      have hO2 : wr.ownsRow w.heap.size 9 1 (.slice A1 n c1) n (stripV l) := hO2
      have h3 : n = (stripL l).length := by rw [← h2, h1]; rfl
      have HO2 := Lib.hid hO2
      have HN3 := Lib.hid h3
      clear hO2 h1 h2 h3 hO hacc hn
      go_wp2
      go_ret
      exact ⟨_, rfl, by rw [← HN3.out]; exact HO2.out, hb⟩

end Go.Proofs.YtjdpkhjoecfhlaaGreatDoor
