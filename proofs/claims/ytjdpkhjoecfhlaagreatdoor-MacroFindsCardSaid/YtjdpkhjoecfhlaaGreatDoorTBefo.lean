/- Macro: the last definition of a name before a place, in the list of all; heavy. The law MacroBefore. -/
import Derived.Test.YtjdpkhjoecfhlaaGreatDoorMacFnd
import Derived.Test.YtjdpkhjoecfhlaaGreatDoorTDefs
import Derived.StillTailTactics

namespace Go.Proofs.YtjdpkhjoecfhlaaGreatDoor
open Go.RowKit Go.Maps Go.Shelf

theorem mem_defs : ∀ (l : List Tz) (i0 : Nat) (i : Nat) (d : Dfn), (i, d) ∈ defsF i0 l ↔ ∃ j, ∃ h : j < l.length, i = i0 + j ∧ dfnB l[j].k l[j].x = some d
  | [], i0, i, d => by simp [defsF]
  | t :: l, i0, i, d => by
    have ih := mem_defs l (i0 + 1) i d
    simp only [defsF, List.mem_append, ih]
    constructor
    · rintro (h | ⟨j, h, rfl, h2⟩)
      · cases e : dfnB t.k t.x with
        | none => rw [e] at h; simp at h
        | some d2 =>
          rw [e] at h
          simp at h
          obtain ⟨rfl, rfl⟩ := h
          exact ⟨0, by simp, by simp, e⟩
      · exact ⟨j + 1, by simpa using h, by omega, h2⟩
    · rintro ⟨j, h, rfl, h2⟩
      cases j with
      | zero => refine .inl ?_; simp only [List.getElem_cons_zero] at h2; rw [h2]; simp
      | succ j => exact .inr ⟨j, by simpa using h, by omega, h2⟩
theorem defs_sorted : ∀ (l : List Tz) (i0 : Nat), (defsF i0 l).Pairwise (fun a b => a.1 < b.1)
  | [], _ => by simp [defsF]
  | t :: l, i0 => by
    have ih := defs_sorted l (i0 + 1)
    simp only [defsF]
    cases e : dfnB t.k t.x with
    | none => simpa using ih
    | some d =>
      simp only [List.singleton_append, List.pairwise_cons]
      refine ⟨fun p hp => ?_, ih⟩
      obtain ⟨j, h, h1, _⟩ := (mem_defs l (i0 + 1) p.1 p.2).1 hp
      omega
theorem hit_some {nm : ByteArray} {t : Tz} {d : Dfn} (h : hit nm t = some d) : dfnB t.k t.x = some d ∧ d.nm = nm := by
  unfold hit at h
  cases e : dfnB t.k t.x with
  | none => rw [e] at h; cases h
  | some d2 =>
    rw [e] at h
    simp only at h
    split at h
    · injection h with h; subst h; exact ⟨rfl, by assumption⟩
    · cases h
theorem hit_none {nm : ByteArray} {t : Tz} (h : hit nm t = none) (d : Dfn) (e : dfnB t.k t.x = some d) : d.nm ≠ nm := fun g => by
  unfold hit at h
  rw [e] at h
  simp [g] at h
theorem findAny_none (nm : ByteArray) (l : List Tz) : ∀ k, findAny nm l k = none → ∀ i d, (i, d) ∈ defsF 0 l → i < k → d.nm ≠ nm
  | 0, _, i, d, _, h => absurd h (Nat.not_lt_zero _)
  | k + 1, h, i, d, hm, hi => by
    rw [findAny] at h
    cases e : (l[k]?).bind (hit nm) with
    | some d2 => rw [e] at h; cases h
    | none =>
      rw [e] at h
      by_cases hik : i = k
      · subst hik
        obtain ⟨j, hj, e1, e2⟩ := (mem_defs l 0 i d).1 hm
        obtain rfl : i = j := by omega
        rw [List.getElem?_eq_getElem hj] at e
        exact hit_none e d e2
      · exact findAny_none nm l k h i d hm (by omega)
theorem findAny_some (nm : ByteArray) (l : List Tz) : ∀ k i d, findAny nm l k = some (i, d) → (i, d) ∈ defsF 0 l ∧ i < k ∧ d.nm = nm ∧ ∀ i' d', (i', d') ∈ defsF 0 l → i < i' → i' < k → d'.nm ≠ nm
  | 0, i, d, h => by cases h
  | k + 1, i, d, h => by
    rw [findAny] at h
    cases e : (l[k]?).bind (hit nm) with
    | some d2 =>
      rw [e] at h
      injection h with h
      injection h with h1 h2
      subst h1
      subst h2
      have hk : k < l.length := by
        by_cases g : k < l.length
        · exact g
        · rw [List.getElem?_eq_none (by omega)] at e; cases e
      rw [List.getElem?_eq_getElem hk] at e
      have hh := hit_some (show hit nm l[k] = some d2 from e)
      exact ⟨(mem_defs l 0 k d2).2 ⟨k, hk, by omega, hh.1⟩, by omega, hh.2, fun i' d' _ h1 h2 => by omega⟩
    | none =>
      rw [e] at h
      obtain ⟨h1, h2, h3, h4⟩ := findAny_some nm l k i d h
      refine ⟨h1, by omega, h3, fun i' d' hm hi hk => ?_⟩
      by_cases hik : i' = k
      · subst hik
        obtain ⟨j, hj, e1, e2⟩ := (mem_defs l 0 i' d').1 hm
        obtain rfl : i' = j := by omega
        rw [List.getElem?_eq_getElem hj] at e
        exact hit_none e d' e2
      · exact h4 i' d' hm hi (by omega)
theorem findAny_take (nm : ByteArray) (l : List Tz) (a : Nat) : ∀ k, k ≤ a → findAny nm (l.take a) k = findAny nm l k
  | 0, _ => rfl
  | k + 1, h => by
    rw [findAny, findAny, findAny_take nm l a k (by omega)]
    rw [List.getElem?_take_of_lt (by omega)]
theorem findK_take (nm : ByteArray) (l : List Tz) (a : Nat) : findK nm (l.take a) a = findK nm l a := by
  unfold findK
  rw [findAny_take nm l a a (Nat.le_refl _)]
/-- does an entry count? -/
def cnt (nm : ByteArray) (a : Nat) (e : Nat × Dfn) : Bool := e.2.nm.data.toList == nm.data.toList && decide (e.1 < a)
/-- the place of the last entry that counts -/
def lastIx (nm : ByteArray) (a : Nat) (ds : List (Nat × Dfn)) : Nat → Int
  | 0 => -1
  | k + 1 => match ds[k]? with | some e => if cnt nm a e = true then k else lastIx nm a ds k | none => lastIx nm a ds k
theorem cnt_iff (nm : ByteArray) (a : Nat) (e : Nat × Dfn) : cnt nm a e = true ↔ e.2.nm = nm ∧ e.1 < a := by
  unfold cnt
  rw [Bool.and_eq_true, beq_iff_eq, decide_eq_true_eq]
  constructor
  · rintro ⟨h1, h2⟩; exact ⟨ByteArray.ext (Array.toList_inj.1 h1), h2⟩
  · rintro ⟨rfl, h2⟩; exact ⟨rfl, h2⟩
theorem lastIx_spec (nm : ByteArray) (a : Nat) (ds : List (Nat × Dfn)) : ∀ k, k ≤ ds.length → (lastIx nm a ds k = -1 ∧ ∀ j (h : j < ds.length), j < k → cnt nm a ds[j] = false) ∨ (∃ j : Nat, ∃ h : j < ds.length, lastIx nm a ds k = j ∧ j < k ∧ cnt nm a ds[j] = true ∧ ∀ j' (h' : j' < ds.length), j < j' → j' < k → cnt nm a ds[j'] = false)
  | 0, _ => .inl ⟨rfl, fun _ _ h => absurd h (Nat.not_lt_zero _)⟩
  | k + 1, hk => by
    have hkl : k < ds.length := by omega
    rw [lastIx, List.getElem?_eq_getElem hkl]
    by_cases hc : cnt nm a ds[k] = true
    · simp only [hc, if_true]
      exact .inr ⟨k, hkl, rfl, by omega, hc, fun j' _ h1 h2 => by omega⟩
    · simp only [hc]
      rw [if_neg (by decide)]
      rcases lastIx_spec nm a ds k (by omega) with ⟨h1, h2⟩ | ⟨j, h, h1, h2, h3, h4⟩
      · refine .inl ⟨h1, fun j h hj => ?_⟩
        by_cases e : j = k
        · subst e; simpa using hc
        · exact h2 j h (by omega)
      · refine .inr ⟨j, h, h1, by omega, h3, fun j' h' hj hk' => ?_⟩
        by_cases e : j' = k
        · subst e; simpa using hc
        · exact h4 j' h' hj (by omega)
/-- the last entry that counts is the definition that is found -/
theorem last_is (nm : ByteArray) (l : List Tz) (a : Nat) : (lastIx nm a (defsF 0 l) (defsF 0 l).length = -1 ∧ findAny nm l a = none) ∨ (∃ j : Nat, ∃ h : j < (defsF 0 l).length, lastIx nm a (defsF 0 l) (defsF 0 l).length = j ∧ findAny nm l a = some (defsF 0 l)[j]) := by
  rcases lastIx_spec nm a (defsF 0 l) _ (Nat.le_refl _) with ⟨h1, h2⟩ | ⟨j, h, h1, h2, h3, h4⟩
  · refine .inl ⟨h1, ?_⟩
    cases e : findAny nm l a with
    | none => rfl
    | some q =>
      obtain ⟨i, d⟩ := q
      obtain ⟨g1, g2, g3, _⟩ := findAny_some nm l a i d e
      obtain ⟨j, hj, hje⟩ := List.getElem_of_mem g1
      have := h2 j hj hj
      rw [hje, (cnt_iff nm a (i, d)).2 ⟨g3, g2⟩] at this
      cases this
  · refine .inr ⟨j, h, h1, ?_⟩
    have hc := (cnt_iff nm a _).1 h3
    cases e : findAny nm l a with
    | none => exact absurd hc.1 (findAny_none nm l a e _ _ (List.getElem_mem h) hc.2)
    | some q =>
      obtain ⟨i, d⟩ := q
      obtain ⟨g1, g2, g3, g4⟩ := findAny_some nm l a i d e
      obtain ⟨j2, hj2, hje⟩ := List.getElem_of_mem g1
      have hs := List.pairwise_iff_getElem.1 (defs_sorted l 0)
      rcases Nat.lt_trichotomy j j2 with hlt | heq | hgt
      · have := h4 j2 hj2 hlt (by omega)
        rw [hje, (cnt_iff nm a (i, d)).2 ⟨g3, g2⟩] at this
        cases this
      · subst heq; rw [hje]
      · have h5 := hs j2 j hj2 h hgt
        rw [hje] at h5
        exact absurd hc.1 (g4 _ _ (List.getElem_mem h) h5 hc.2)

def sumX : List Tz → Nat
  | [] => 0
  | t :: l => t.x.size + sumX l
theorem sumX_append : ∀ a b : List Tz, sumX (a ++ b) = sumX a + sumX b
  | [], b => by simp [sumX]
  | t :: a, b => by
    have := sumX_append a b
    simp only [List.cons_append, sumX]
    omega
theorem sumX_take (l : List Tz) (k : Nat) (h : k < l.length) : sumX (l.take (k + 1)) = sumX (l.take k) + l[k].x.size := by
  rw [List.take_succ_eq_append_getElem h, sumX_append]
  simp [sumX]
theorem sumX_mem : ∀ (l : List Tz) (t : Tz), t ∈ l → t.x.size ≤ sumX l
  | [], t, h => by cases h
  | u :: l, t, h => by
    simp only [sumX]
    rcases List.mem_cons.1 h with rfl | h
    · omega
    · have := sumX_mem l t h; omega
theorem sumX_le (M : Nat) : ∀ l : List Tz, (∀ t ∈ l, t.x.size ≤ M) → sumX l ≤ l.length * M
  | [], _ => by simp [sumX]
  | u :: l, h => by
    have h1 := sumX_le M l fun t ht => h t (List.mem_cons_of_mem _ ht)
    have h2 := h u (by simp)
    simp only [sumX, List.length_cons, Nat.succ_mul]
    omega

set_option maxHeartbeats 1000000 in
set_option maxRecDepth 100000 in
theorem heavy_any (A : Option Addr) (c : Nat) (l : List Tz) (w : World) (hx : ∀ t ∈ l, t.x.size ≤ 140737488355328) (hl : l.length ≤ 140737488355328) (hR : ZRd w w.heap.size A l) :
    Calls Tryz.prog 30 #[.slice A l.length c, .slice none 0 0] w fun e w' => e = .returned (.bool (!(decide (l.length ≤ 600) && decide (sumX l ≤ 20000)))) ∧ w' = w := by
  have HR := Lib.hid hR
  have HX := Lib.hid hx
  obtain ⟨n, hn⟩ : ∃ n, n = l.length := ⟨_, rfl⟩
  have HN := Lib.hid hn
  rw [← hn] at hl ⊢
  obtain ⟨res, hres⟩ : ∃ res, res = !(decide (n ≤ 600) && decide (sumX l ≤ 20000)) := ⟨_, rfl⟩
  rw [← hres]
  have HRES := Lib.hid hres
  clear hR hx hn hres
  go_enter Tryz.func30, Tryz.ntmps30
  go_wp2_with fail
  go_loop [5, 6] (fun v5 v6 => ∃ (k : Nat) (s : Int), k ≤ n ∧ v6 = .int .i64 k ∧ v5 = .int .i64 s ∧ Hid (n ≤ 600 → s = (sumX (l.take k) : Nat))) (fun _ v6 => n - (intOf v6).toNat)
  case atStart => exact ⟨0, 0, Nat.zero_le _, rfl, rfl, fun _ => by simp [sumX]⟩
  case round =>
    obtain ⟨k, s, hk, rfl, rfl, hs⟩ := hrel
    by_cases hlt : k < n
    · have hkl : k < l.length := by rw [← HN.out]; exact hlt
      obtain ⟨b, off, rfl, hbb, c0, c1, c2, c3⟩ := HR.out.at_ k hkl
      have hltI : (k : Int) < (n : Int) := by omega
      have hstep := sumX_take l k hkl
      have hxs := HX.out l[k] (List.getElem_mem hkl)
      generalize l[k] = t at *
      obtain ⟨tk, tb, tx, ta⟩ := t
      simp only at c0 c1 c2 c3 hstep hxs
      have HST := Lib.hid hstep
      clear hstep hkl
      by_cases h6 : n ≤ 600
      · have hs2 := hs.out h6
        have hbnd := sumX_le 140737488355328 (l.take k) fun t ht => HX.out t (List.mem_of_mem_take ht)
        have hk6 : (l.take k).length * 140737488355328 ≤ 600 * 140737488355328 := Nat.mul_le_mul_right _ (by rw [List.length_take]; omega)
        generalize sumX (l.take k) = S at *
        subst hs2
        have b0 : (0 : Int) ≤ (S : Int) := by omega
        have b1 : (S : Int) + tx.size ≤ 9000000000000000000 := by omega
        clear hs hbnd hk6
        go_wp2_with fail
        go_round
        case rel => exact ⟨k + 1, _, by omega, by go_num, rfl, fun _ => by rw [HST.out]; omega⟩
        case measure => simp [intOf]; omega
      · clear hs
        go_wp2_with fail
        go_round
        case rel => exact ⟨k + 1, _, by omega, by go_num, rfl, fun h => absurd h h6⟩
        case measure => simp [intOf]; omega
    · obtain rfl : k = n := by omega
      have HE : Hid (l.take k = l) := List.take_of_length_le (by rw [← HN.out]; exact Nat.le_refl _)
      have hltI : ¬ (k : Int) < (k : Int) := by omega
      clear hlt
      by_cases h6 : k ≤ 600
      · have hs2 := hs.out h6
        rw [HE.out] at hs2
        have q1 : ¬ (600 : Int) < (k : Int) := by omega
        by_cases h2 : sumX l ≤ 20000
        · have q2 : ¬ (20000 : Int) < s := by omega
          have HT : Hid (res = false) := by unfold Hid; rw [HRES.out]; simp [h6, h2]
          clear hs2 hs h6 h2
          go_wp2_with fail
          go_ret
          exact ⟨by rw [HT.out]; rfl, rfl⟩
        · have q2 : (20000 : Int) < s := by omega
          have HT : Hid (res = true) := by unfold Hid; rw [HRES.out]; simp [h2]
          clear hs2 hs h6 h2
          go_wp2_with fail
          go_ret
          exact ⟨by rw [HT.out]; rfl, rfl⟩
      · have q1 : (600 : Int) < (k : Int) := by omega
        have HT : Hid (res = true) := by unfold Hid; rw [HRES.out]; simp [h6]
        clear hs h6
        go_wp2_with fail
        go_ret
        exact ⟨by rw [HT.out]; rfl, rfl⟩

end Go.Proofs.YtjdpkhjoecfhlaaGreatDoor

namespace Go.Proofs.YtjdpkhjoecfhlaaGreatDoor
open Go.RowKit Go.Maps Go.Shelf

theorem zrd_take {w : World} {B : Nat} {A : Option Addr} {l : List Tz} (h : ZRd w B A l) (a : Nat) : ZRd w B A (l.take a) := by
  have e : cellsZ l = cellsZ (l.take a) ++ cellsZ (l.drop a) := by
    unfold cellsZ
    rw [← List.flatMap_append, List.take_append_drop]
  unfold ZRd at h ⊢
  rw [e] at h
  exact fun hl => by
    obtain ⟨b, off, e1, e2, e3⟩ := h (by rw [List.length_append]; omega)
    exact ⟨b, off, e1, e2, fun j u hj => e3 j u (by rw [List.getElem?_append_left (List.getElem?_eq_some_iff.1 hj).1]; exact hj)⟩

theorem DefRow.at_ {w : World} {B : Nat} {T : TypeId} {A : Option Addr} {N c : Nat} {ds : List (Nat × Dfn)} (h : DefRow w B T (.slice A N c) ds) (hN : N = ds.length) (k : Nat) (hk : k < ds.length) : ∃ g v, A = some ⟨g, 0, none⟩ ∧ g < w.heap.size ∧ w.cell? ⟨g, k * 6, none⟩ = some (.string ds[k].2.nm) ∧ w.cell? ⟨g, k * 6 + 1, none⟩ = some (.int .i64 (ds[k].1 : Nat)) ∧ w.cell? ⟨g, k * 6 + 2, none⟩ = some v ∧ w.cell? ⟨g, k * 6 + 3, none⟩ = some (.bool ds[k].2.fn) ∧ w.cell? ⟨g, k * 6 + 4, none⟩ = some (.string (bodyB ds[k].2)) ∧ w.cell? ⟨g, k * 6 + 5, none⟩ = some (.bool ds[k].2.gone) ∧ w.ownsRow 0 9 1 v ds[k].2.ps.length (ds[k].2.ps.map Value.string) := by
  subst hN
  obtain ⟨es, h1, h2, h3⟩ := h
  have hlen : es.length = ds.length := by rw [← h1, List.length_map]
  have hke : k < es.length := by omega
  obtain ⟨g, cap, e, hgb, hgl⟩ := h2.form (by omega)
  injection e with e1 e2 e3
  have hd : ds[k] = es[k].1 := by simp only [← h1, List.getElem_map]
  have hc : ∀ j, j < 6 → w.cell? ⟨g, k * 6 + j, none⟩ = (cellM es[k])[j]? := fun j hj => by
    have h4 := h2
    rw [e1] at h4
    rw [h4.cellAt (k * 6 + j) (by rw [← hlen]; omega), cellsM_get es k hke j hj]
  have c0 := hc 0 (by omega)
  have c1 := hc 1 (by omega)
  have c2 := hc 2 (by omega)
  have c3 := hc 3 (by omega)
  have c4 := hc 4 (by omega)
  have c5 := hc 5 (by omega)
  have h5 := h3 es[k] (List.getElem_mem hke)
  rw [hd]
  exact ⟨g, es[k].2, e1, hgl, c0, c1, c2, c3, c4, c5, h5⟩
theorem lastIx_step (nm : ByteArray) (a : Nat) (ds : List (Nat × Dfn)) (k : Nat) (h : k < ds.length) : lastIx nm a ds (k + 1) = if cnt nm a ds[k] = true then (k : Int) else lastIx nm a ds k := by
  rw [lastIx, List.getElem?_eq_getElem h]

end Go.Proofs.YtjdpkhjoecfhlaaGreatDoor
