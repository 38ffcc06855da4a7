import Derived.Test.YtgpmodbndngcoaaDoorBlk
import Derived.RegionTactic
namespace Go.Proofs.YtgpmodbndngcoaaDoor
open Go.RowKit Go.Sort

/-- '==' of two edits -/
theorem run_eqlEd (x y : Ed) (w : World) : (binOp .eql 46 (.agg #[.int .i64 x.f, .int .i64 x.t, .string x.s]) (.agg #[.int .i64 y.f, .int .i64 y.t, .string y.s])).run Tryd.prog w = .ok (.bool (decide (x = y))) w := by
  go_simp
  by_cases h : x = y
  · subst h; simp
  · rw [decide_eq_false h]
    by_cases h1 : x.f = y.f
    · by_cases h2 : x.t = y.t
      · by_cases h3 : x.s.toList = y.s.toList
        · exact absurd (Ed.ext' h1 h2 (ba_ext (by rw [ByteArray.toList_eq, ByteArray.toList_eq] at h3; exact h3))) h
        · simp [h1, h2, h3]
      · simp [h1, h2]
    · simp [h1]

theorem run_neqEd (x y : Ed) (w : World) : (binOp .neq 46 (.agg #[.int .i64 x.f, .int .i64 x.t, .string x.s]) (.agg #[.int .i64 y.f, .int .i64 y.t, .string y.s])).run Tryd.prog w = .ok (.bool (!decide (x = y))) w := by
  have h := run_eqlEd x y w
  rw [run_eql_struct] at h
  rw [run_neq_struct]
  cases hr : (Op.equalIn 10000 46 (.agg #[.int .i64 x.f, .int .i64 x.t, .string x.s]) (.agg #[.int .i64 y.f, .int .i64 y.t, .string y.s])).run Tryd.prog w with
  | ok b w' =>
    rw [hr] at h
    simp only [Result.andThen, Result.ok.injEq, Value.bool.injEq] at h ⊢
    exact ⟨by rw [h.1], h.2⟩
  | halt e w' => rw [hr] at h; simp [Result.andThen] at h

theorem compE_snoc : ∀ (p : List Ed) (x y : Ed), compE (p ++ [x, y]) = if x = y then compE (p ++ [x]) else compE (p ++ [x]) ++ [y]
  | [], x, y => by
    by_cases h : x = y
    · subst h; simp [compE]
    · simp [compE, h]
  | [a], x, y => by
    have ih := compE_snoc [] x y
    simp only [List.nil_append] at ih
    show (if a = x then compE [x, y] else a :: compE [x, y]) = if x = y then (if a = x then compE [x] else a :: compE [x]) else (if a = x then compE [x] else a :: compE [x]) ++ [y]
    rw [ih]
    by_cases h : x = y <;> by_cases g : a = x <;> simp [h, g]
  | a :: b :: p, x, y => by
    have ih := compE_snoc (b :: p) x y
    show (if a = b then compE (b :: p ++ [x, y]) else a :: compE (b :: p ++ [x, y])) = if x = y then (if a = b then compE (b :: p ++ [x]) else a :: compE (b :: p ++ [x])) else (if a = b then compE (b :: p ++ [x]) else a :: compE (b :: p ++ [x])) ++ [y]
    rw [ih]
    by_cases h : x = y <;> by_cases g : a = b <;> simp [h, g]

theorem compE_take (l : List Ed) (k : Nat) (h1 : 1 ≤ k) (h : k < l.length) : compE (l.take (k + 1)) = if l[k] = l[k - 1] then compE (l.take k) else compE (l.take k) ++ [l[k]] := by
  obtain ⟨j, rfl⟩ : ∃ j, k = j + 1 := ⟨k - 1, by omega⟩
  have e1 : l.take (j + 1) = l.take j ++ [l[j]] := by rw [List.take_succ_eq_append_getElem (by omega)]
  have e2 : l.take (j + 1 + 1) = l.take j ++ [l[j], l[j + 1]] := by rw [List.take_succ_eq_append_getElem h, e1, List.append_assoc]; rfl
  rw [e2, e1, compE_snoc]
  simp only [Nat.add_sub_cancel]
  by_cases g : l[j] = l[j + 1]
  · rw [if_pos g, if_pos g.symm]
  · rw [if_neg g, if_neg (fun e => g e.symm)]

theorem compE_one (l : List Ed) (h : l.length < 2) : compE l = l := by
  match l, h with
  | [], _ => rfl
  | [x], _ => rfl

def zeroEd : Ed := ⟨0, 0, ⟨#[]⟩⟩

theorem zeros_cells (n : Nat) : (Builtin.zeroCells (Value.agg #[.int .i64 0, .int .i64 0, .string ⟨#[]⟩]).cells n).toList.length = n * 3 := by
  simp [Builtin.zeroCells, Value.cells]

theorem zeros_one (n : Nat) : ∀ v ∈ (Builtin.zeroCells (Value.agg #[.int .i64 0, .int .i64 0, .string ⟨#[]⟩]).cells n).toList, v.oneCell' = true := by
  intro v hv
  simp only [Builtin.zeroCells, Value.cells] at hv
  simp at hv
  obtain ⟨a, ha, rfl⟩ := hv
  rcases (by omega : a % 3 = 0 ∨ a % 3 = 1 ∨ a % 3 = 2) with e | e | e <;> rw [e] <;> rfl

theorem run_clearEd {w : World} {g : Nat} {m : List Ed} (h : EB w g m) (k n c : Nat) (hn : 0 < n) (hk : k + n = m.length) (ty : TypeId) :
    (Builtin.clear_ #[30] ty #[.slice (some ⟨g, k * 3, none⟩) n c]).run Tryd.prog w = .ok (.tuple #[]) (w.setCells g (k * 3) (Builtin.zeroCells (Value.agg #[.int .i64 0, .int .i64 0, .string ⟨#[]⟩]).cells n).toList) := by
  have hz := zeros_cells n
  have hz1 := zeros_one n
  have hst := run_storeCells_cells (P := Tryd.prog) g (k * 3) (Builtin.zeroCells (Value.agg #[.int .i64 0, .int .i64 0, .string ⟨#[]⟩]).cells n).toList 0 w
    (fun j hj => by
      rw [hz] at hj
      have : k * 3 + 0 + j < (cellsE m).length := by rw [cellsE_length]; omega
      rw [h.cells _ _ (List.getElem?_eq_getElem this)]; rfl)
    (fun j _ => h.frozen _) hz1
  simp only [Nat.add_zero] at hst
  obtain ⟨n', rfl⟩ : ∃ n', n = n' + 1 := ⟨n - 1, by omega⟩
  simp [Builtin.clear_, run_underlying Tryd.underlying30, Tryd.zeroValue46, hst]

theorem below_drewN' {B : Nat} {a w : World} (h : Below B a w) (n : Nat) : Below B a (w.drewN n) := ⟨h.os, h.tape, h.output, h.size, h.block⟩

/-- where the inner loop stands: kk kept so far, all before place p looked at, m what the block holds -/
def CInv (l m : List Ed) (kk p : Nat) : Prop :=
  m.length = l.length ∧ 1 ≤ p ∧ p ≤ l.length ∧ kk < p ∧ m.take kk = compE (l.take p) ∧ (compE (l.take p)).length = kk ∧ m.drop (p - 1) = l.drop (p - 1)

theorem CInv.start {l : List Ed} {k : Nat} (h1 : 1 ≤ k) (h : k < l.length) (hc : compE (l.take k) = l.take k) (hd : l[k] = l[k - 1]) : CInv l l k (k + 1) := by
  refine ⟨rfl, by omega, by omega, by omega, ?_, ?_, rfl⟩
  · rw [compE_take l k h1 h, if_pos hd, hc]
  · rw [compE_take l k h1 h, if_pos hd, hc, List.length_take]; omega

theorem drop_get {l m : List Ed} {q j : Nat} (h : m.drop q = l.drop q) (hj : q ≤ j) (hl : j < l.length) (hm : j < m.length) : m[j] = l[j] := by
  have e := congrArg (fun x => x[j - q]?) h
  simp only [List.getElem?_drop, show q + (j - q) = j by omega, List.getElem?_eq_getElem hl, List.getElem?_eq_getElem hm, Option.some.injEq] at e
  exact e

theorem drop_more {l m : List Ed} {q q' : Nat} (h : m.drop q = l.drop q) (hq : q ≤ q') : m.drop q' = l.drop q' := by
  have e := congrArg (List.drop (q' - q)) h
  rwa [List.drop_drop, List.drop_drop, show q + (q' - q) = q' by omega] at e

theorem CInv.skip {l m : List Ed} {kk p : Nat} (h : CInv l m kk p) (hp : p < l.length) (hd : l[p] = l[p - 1]) : CInv l m kk (p + 1) := by
  obtain ⟨a, b, c, d, e, f, g⟩ := h
  have ct := compE_take l p b hp
  rw [if_pos hd] at ct
  exact ⟨a, by omega, by omega, by omega, by rw [ct, e], by rw [ct, f], drop_more g (by omega)⟩

theorem CInv.put {l m : List Ed} {kk p : Nat} (h : CInv l m kk p) (hp : p < l.length) (hd : l[p] ≠ l[p - 1]) : CInv l (m.set kk l[p]) (kk + 1) (p + 1) := by
  obtain ⟨a, b, c, d, e, f, g⟩ := h
  have ct := compE_take l p b hp
  rw [if_neg hd] at ct
  refine ⟨by simpa using a, by omega, by omega, by omega, ?_, by rw [ct, List.length_append, f]; rfl, ?_⟩
  · rw [ct, ← e, List.take_succ_eq_append_getElem (by simp; omega), List.take_set_of_le (Nat.le_refl _), List.getElem_set_self]
  · rw [List.drop_set_of_lt (by omega)]
    exact drop_more g (by omega)

set_option maxHeartbeats 1000000 in
set_option maxRecDepth 100000 in
theorem compactE_any (g c : Nat) (l : List Ed) (w : World) (h : EB w g l) (hl : l.length ≤ 1000000) (hc : l.length ≤ c) (hc2 : c ≤ maxLen) :
    Calls Tryd.prog 99 #[.slice (some ⟨g, 0, none⟩) l.length c] w fun e w' =>
      e = .returned (.slice (some ⟨g, 0, none⟩) (compE l).length c) ∧ EB w' g (compE l) ∧ ∀ B, B ≤ g → Below B w w' := by
  unfold maxLen at hc2
  by_cases h2 : l.length < 2
  · have ho := compE_one l h2
    have HO := Lib.hid ho
    have HH := Lib.hid h
    clear ho h
    go_enter Tryd.func99, Tryd.ntmps99
    go_wp2
    go_ret
    rw [HO.out]
    exact ⟨rfl, HH.out, fun B _ => Below.refl B _⟩
  · go_enter Tryd.func99, Tryd.ntmps99
    go_wp2
    go_loopw [3] (fun i wr => ∃ k q : Nat, 1 ≤ k ∧ k ≤ l.length ∧ i = .int .i64 k ∧ wr = w.drewN q ∧ Hid (compE (l.take k) = l.take k)) (fun i _ => l.length - (intOf i).toNat)
    case atStart => exact ⟨1, 0, by omega, by omega, rfl, rfl, compE_one _ (by rw [List.length_take]; omega)⟩
    case round =>
      obtain ⟨k, q, hk1, hk, rfl, rfl, hcm⟩ := hrel
      by_cases hlt : k < l.length
      · obtain ⟨c0, c1, c2⟩ := h.at_ k hlt
        obtain ⟨d0, d1, d2⟩ := h.at_ (k - 1) (by omega)
        have e1 : ((k : Int) - 1).toNat = k - 1 := by omega
        have HH := Lib.hid h
        clear h
        have ct := compE_take l k hk1 hlt
        have HI := fun hd => Lib.hid (CInv.start hk1 hlt hcm.out hd)
        rw [hcm.out] at ct
        generalize hx : l[k] = x at *
        generalize hy : l[k - 1] = y at *
        have HX := Lib.hid hx
        have HY := Lib.hid hy
        have HCT := Lib.hid ct
        clear hx hy ct
        have hI2 := Lib.hid HI
        clear HI
        have heq := fun W => run_eqlEd x y W
        by_cases hxy : x = y
        · have hxy' : decide (x = y) = true := by simp [hxy]
          rw [hxy'] at heq
          have HXY := Lib.hid hxy
          clear hxy hxy'
          go_wp2
          go_region
          go_wp2
          clear heq c0 c1 c2 d0 d1 d2
          have hi := hI2.out HXY.out
          clear hI2 HCT HXY HX HY hcm e1
          go_loopw [3, 5] (fun i j wr => ∃ (kk k2 : Nat) (m : List Ed), i = .int .i64 kk ∧ j = .int .i64 k2 ∧ 1 ≤ k2 ∧ Hid (CInv l m kk (k + k2)) ∧ Hid (EB wr g m) ∧ Hid (∀ B, B ≤ g → Below B w wr)) (fun _ j _ => l.length - k - (intOf j).toNat)
          case atStart => exact ⟨k, 1, l, rfl, rfl, Nat.le_refl _, hi, (by obtain ⟨cur, hh⟩ := HH.out; exact ⟨cur, hh⟩), fun B _ => below_drewN' (Below.refl B _) _⟩
          case round =>
            obtain ⟨kk, k2, m, rfl, rfl, hk2, hI, hE, hB⟩ := hrel
            have hI1 := hI.out
            obtain ⟨i1, i2, i3, i4, i5, i6, i7⟩ := hI1
            have hE1 := hE.out
            by_cases hlt2 : k + k2 < l.length
            · obtain ⟨c0, c1, c2⟩ := hE1.at_ (k + k2) (by omega)
              obtain ⟨d0, d1, d2⟩ := hE1.at_ (k + k2 - 1) (by omega)
              obtain ⟨s0, s1, s2⟩ := hE1.at_ kk (by omega)
              have f0 := hE1.frozen (kk * 3)
              have f1 := hE1.frozen (kk * 3 + 1)
              have f2 := hE1.frozen (kk * 3 + 2)
              rw [drop_get i7 (by omega) (by omega) (by omega)] at c0 c1 c2 d0 d1 d2
              rw [show (k + k2) * 3 = k * 3 + k2 * 3 by omega] at c0 c1 c2
              rw [show (k + k2 - 1) * 3 = k * 3 + (k2 - 1) * 3 by omega] at d0 d1 d2
              have e2 : ((k2 : Int) - 1).toNat = k2 - 1 := by omega
              have hS := fun hd => Lib.hid (hI.out.skip hlt2 hd)
              have hP := fun hd => Lib.hid (hI.out.put hlt2 hd)
              have hSt := Lib.hid (hE1.store kk (by omega) l[k + k2])
              generalize l[k + k2] = x2 at *
              generalize l[k + k2 - 1] = y2 at *
              generalize m[kk] = z2 at *
              clear i1 i2 i3 i5 i6 i7 hE1 hI
              have HS := Lib.hid hS
              have HP := Lib.hid hP
              clear hS hP
              have heq := fun W => run_neqEd x2 y2 W
              by_cases hxy : x2 = y2
              · have hxy' : (!decide (x2 = y2)) = false := by simp [hxy]
                rw [hxy'] at heq
                have HXY := Lib.hid hxy
                clear hxy hxy'
                go_wp2
                go_region
                go_wp2
                go_roundw
                case rel => exact ⟨kk, k2 + 1, m, rfl, by go_num, by omega, HS.out HXY.out |>.out, (by obtain ⟨cur, hh⟩ := hE.out; exact ⟨cur, hh⟩), fun B hb => (hB.out B hb).drew⟩
                case measure => simp [intOf]; omega
              · have hxy' : (!decide (x2 = y2)) = true := by simp [hxy]
                rw [hxy'] at heq
                have HXY := Lib.hid hxy
                clear hxy hxy'
                go_wp2
                go_region
                go_wp2
                go_roundw
                case rel => exact ⟨kk + 1, k2 + 1, m.set kk x2, by go_num, by go_num, by omega, (HP.out HXY.out).out, hSt.out, fun B hb => ((((hB.out B hb).setCell (p := ⟨g, kk * 3, none⟩) hb _).setCell (p := ⟨g, kk * 3 + 1, none⟩) hb _).setCell (p := ⟨g, kk * 3 + 2, none⟩) hb _).drew⟩
                case measure => simp [intOf]; omega
            · have hcl := fun ty => run_clearEd hE1 kk (l.length - kk) (c - kk) (by omega) (by omega) ty
              have hcut := hE1.cut kk (Builtin.zeroCells (Value.agg #[.int .i64 0, .int .i64 0, .string ⟨#[]⟩]).cells (l.length - kk)).toList
              rw [i5, show k + k2 = l.length by omega, List.take_length] at hcut
              rw [show k + k2 = l.length by omega, List.take_length] at i6
              generalize (Builtin.zeroCells (Value.agg #[.int .i64 0, .int .i64 0, .string ⟨#[]⟩]).cells (l.length - kk)).toList = zs at *
              have hcut := Lib.hid hcut
              have I6 := Lib.hid i6
              have hkl : kk < l.length := by omega
              clear hI hE hE1 i1 i2 i3 i4 i5 i6 i7
              go_wp2
              go_ret
              rw [I6.out]
              exact ⟨rfl, hcut.out, fun B hb => below_setCells hb _ _ _ _ (hB.out B hb)⟩
        · have hxy' : decide (x = y) = false := by simp [hxy]
          rw [hxy'] at heq
          have HXY := Lib.hid hxy
          clear hxy hxy'
          go_wp2
          go_region
          go_wp2
          go_roundw
          case rel =>
            refine ⟨k + 1, q + 1, by omega, by omega, by go_num, rfl, ?_⟩
            unfold Hid
            rw [HCT.out, if_neg HXY.out, ← HX.out, List.take_succ_eq_append_getElem hlt]
          case measure => simp [intOf]; omega
      · have hkl : k = l.length := by omega
        have HH := Lib.hid h
        have HC := hcm.out
        rw [hkl, List.take_length] at HC
        have HC := Lib.hid HC
        clear h hcm hkl
        go_wp2
        go_ret
        rw [HC.out]
        exact ⟨rfl, HH.out, fun B _ => below_drewN' (Below.refl B _) _⟩

end Go.Proofs.YtgpmodbndngcoaaDoor
