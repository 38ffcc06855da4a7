/- Macro: the last definition of a name before a place, in the list of all; heavy. The law MacroBefore. -/
import Derived.Test.YtjdpkhjoecfhlaaDoorMacFnd
import Derived.Test.YtjdpkhjoecfhlaaDoorTDefs
import Derived.StillTailTactics

namespace Go.Proofs.YtjdpkhjoecfhlaaDoor
open Go.RowKit Go.Maps Go.Shelf

theorem mem_defs : ∀ (l : List Tz) (i0 : Nat) (i : Nat) (d : Dfn), (i, d) ∈ defsF i0 l ↔ ∃ j, ∃ h : j < l.length, i = i0 + j ∧ dfnB l[j].k l[j].x = some d
  | [], i0, i, d => by simp [defsF]
  | t :: l, i0, i, d => by
    have ih := mem_defs l (i0 + 1) i d
    simp only [defsF, List.mem_append, ih]
    constructor
    · rintro (h | ⟨j, h, rfl, h2⟩)
      · cases e : dfnB t.k t.x with
        | none => rw [e] at h; simp at h
        | some d2 =>
          rw [e] at h
          simp at h
          obtain ⟨rfl, rfl⟩ := h
          exact ⟨0, by simp, by simp, e⟩
      · exact ⟨j + 1, by simpa using h, by omega, h2⟩
    · rintro ⟨j, h, rfl, h2⟩
      cases j with
      | zero => refine .inl ?_; simp only [List.getElem_cons_zero] at h2; rw [h2]; simp
      | succ j => exact .inr ⟨j, by simpa using h, by omega, h2⟩
theorem defs_sorted : ∀ (l : List Tz) (i0 : Nat), (defsF i0 l).Pairwise (fun a b => a.1 < b.1)
  | [], _ => by simp [defsF]
  | t :: l, i0 => by
    have ih := defs_sorted l (i0 + 1)
    simp only [defsF]
    cases e : dfnB t.k t.x with
    | none => simpa using ih
    | some d =>
      simp only [List.singleton_append, List.pairwise_cons]
      refine ⟨fun p hp => ?_, ih⟩
      obtain ⟨j, h, h1, _⟩ := (mem_defs l (i0 + 1) p.1 p.2).1 hp
      omega
theorem hit_some {nm : ByteArray} {t : Tz} {d : Dfn} (h : hit nm t = some d) : dfnB t.k t.x = some d ∧ d.nm = nm := by
  unfold hit at h
  cases e : dfnB t.k t.x with
  | none => rw [e] at h; cases h
  | some d2 =>
    rw [e] at h
    simp only at h
    split at h
    · injection h with h; subst h; exact ⟨rfl, by assumption⟩
    · cases h
theorem hit_none {nm : ByteArray} {t : Tz} (h : hit nm t = none) (d : Dfn) (e : dfnB t.k t.x = some d) : d.nm ≠ nm := fun g => by
  unfold hit at h
  rw [e] at h
  simp [g] at h
theorem findAny_none (nm : ByteArray) (l : List Tz) : ∀ k, findAny nm l k = none → ∀ i d, (i, d) ∈ defsF 0 l → i < k → d.nm ≠ nm
  | 0, _, i, d, _, h => absurd h (Nat.not_lt_zero _)
  | k + 1, h, i, d, hm, hi => by
    rw [findAny] at h
    cases e : (l[k]?).bind (hit nm) with
    | some d2 => rw [e] at h; cases h
    | none =>
      rw [e] at h
      by_cases hik : i = k
      · subst hik
        obtain ⟨j, hj, e1, e2⟩ := (mem_defs l 0 i d).1 hm
        obtain rfl : i = j := by omega
        rw [List.getElem?_eq_getElem hj] at e
        exact hit_none e d e2
      · exact findAny_none nm l k h i d hm (by omega)
theorem findAny_some (nm : ByteArray) (l : List Tz) : ∀ k i d, findAny nm l k = some (i, d) → (i, d) ∈ defsF 0 l ∧ i < k ∧ d.nm = nm ∧ ∀ i' d', (i', d') ∈ defsF 0 l → i < i' → i' < k → d'.nm ≠ nm
  | 0, i, d, h => by cases h
  | k + 1, i, d, h => by
    rw [findAny] at h
    cases e : (l[k]?).bind (hit nm) with
    | some d2 =>
      rw [e] at h
      injection h with h
      injection h with h1 h2
      subst h1
      subst h2
      have hk : k < l.length := by
        by_cases g : k < l.length
        · exact g
        · rw [List.getElem?_eq_none (by omega)] at e; cases e
      rw [List.getElem?_eq_getElem hk] at e
      have hh := hit_some (show hit nm l[k] = some d2 from e)
      exact ⟨(mem_defs l 0 k d2).2 ⟨k, hk, by omega, hh.1⟩, by omega, hh.2, fun i' d' _ h1 h2 => by omega⟩
    | none =>
      rw [e] at h
      obtain ⟨h1, h2, h3, h4⟩ := findAny_some nm l k i d h
      refine ⟨h1, by omega, h3, fun i' d' hm hi hk => ?_⟩
      by_cases hik : i' = k
      · subst hik
        obtain ⟨j, hj, e1, e2⟩ := (mem_defs l 0 i' d').1 hm
        obtain rfl : i' = j := by omega
        rw [List.getElem?_eq_getElem hj] at e
        exact hit_none e d' e2
      · exact h4 i' d' hm hi (by omega)
theorem findAny_take (nm : ByteArray) (l : List Tz) (a : Nat) : ∀ k, k ≤ a → findAny nm (l.take a) k = findAny nm l k
  | 0, _ => rfl
  | k + 1, h => by
    rw [findAny, findAny, findAny_take nm l a k (by omega)]
    rw [List.getElem?_take_of_lt (by omega)]
theorem findK_take (nm : ByteArray) (l : List Tz) (a : Nat) : findK nm (l.take a) a = findK nm l a := by
  unfold findK
  rw [findAny_take nm l a a (Nat.le_refl _)]
/-- does an entry count? -/
def cnt (nm : ByteArray) (a : Nat) (e : Nat × Dfn) : Bool := e.2.nm.data.toList == nm.data.toList && decide (e.1 < a)
/-- the place of the last entry that counts -/
def lastIx (nm : ByteArray) (a : Nat) (ds : List (Nat × Dfn)) : Nat → Int
  | 0 => -1
  | k + 1 => match ds[k]? with | some e => if cnt nm a e = true then k else lastIx nm a ds k | none => lastIx nm a ds k
theorem cnt_iff (nm : ByteArray) (a : Nat) (e : Nat × Dfn) : cnt nm a e = true ↔ e.2.nm = nm ∧ e.1 < a := by
  unfold cnt
  rw [Bool.and_eq_true, beq_iff_eq, decide_eq_true_eq]
  constructor
  · rintro ⟨h1, h2⟩; exact ⟨ByteArray.ext (Array.toList_inj.1 h1), h2⟩
  · rintro ⟨rfl, h2⟩; exact ⟨rfl, h2⟩
theorem lastIx_spec (nm : ByteArray) (a : Nat) (ds : List (Nat × Dfn)) : ∀ k, k ≤ ds.length → (lastIx nm a ds k = -1 ∧ ∀ j (h : j < ds.length), j < k → cnt nm a ds[j] = false) ∨ (∃ j : Nat, ∃ h : j < ds.length, lastIx nm a ds k = j ∧ j < k ∧ cnt nm a ds[j] = true ∧ ∀ j' (h' : j' < ds.length), j < j' → j' < k → cnt nm a ds[j'] = false)
  | 0, _ => .inl ⟨rfl, fun _ _ h => absurd h (Nat.not_lt_zero _)⟩
  | k + 1, hk => by
    have hkl : k < ds.length := by omega
    rw [lastIx, List.getElem?_eq_getElem hkl]
    by_cases hc : cnt nm a ds[k] = true
    · simp only [hc, if_true]
      exact .inr ⟨k, hkl, rfl, by omega, hc, fun j' _ h1 h2 => by omega⟩
    · simp only [hc]
      rw [if_neg (by decide)]
      rcases lastIx_spec nm a ds k (by omega) with ⟨h1, h2⟩ | ⟨j, h, h1, h2, h3, h4⟩
      · refine .inl ⟨h1, fun j h hj => ?_⟩
        by_cases e : j = k
        · subst e; simpa using hc
        · exact h2 j h (by omega)
      · refine .inr ⟨j, h, h1, by omega, h3, fun j' h' hj hk' => ?_⟩
        by_cases e : j' = k
        · subst e; simpa using hc
        · exact h4 j' h' hj (by omega)
/-- the last entry that counts is the definition that is found -/
theorem last_is (nm : ByteArray) (l : List Tz) (a : Nat) : (lastIx nm a (defsF 0 l) (defsF 0 l).length = -1 ∧ findAny nm l a = none) ∨ (∃ j : Nat, ∃ h : j < (defsF 0 l).length, lastIx nm a (defsF 0 l) (defsF 0 l).length = j ∧ findAny nm l a = some (defsF 0 l)[j]) := by
  rcases lastIx_spec nm a (defsF 0 l) _ (Nat.le_refl _) with ⟨h1, h2⟩ | ⟨j, h, h1, h2, h3, h4⟩
  · refine .inl ⟨h1, ?_⟩
    cases e : findAny nm l a with
    | none => rfl
    | some q =>
      obtain ⟨i, d⟩ := q
      obtain ⟨g1, g2, g3, _⟩ := findAny_some nm l a i d e
      obtain ⟨j, hj, hje⟩ := List.getElem_of_mem g1
      have := h2 j hj hj
      rw [hje, (cnt_iff nm a (i, d)).2 ⟨g3, g2⟩] at this
      cases this
  · refine .inr ⟨j, h, h1, ?_⟩
    have hc := (cnt_iff nm a _).1 h3
    cases e : findAny nm l a with
    | none => exact absurd hc.1 (findAny_none nm l a e _ _ (List.getElem_mem h) hc.2)
    | some q =>
      obtain ⟨i, d⟩ := q
      obtain ⟨g1, g2, g3, g4⟩ := findAny_some nm l a i d e
      obtain ⟨j2, hj2, hje⟩ := List.getElem_of_mem g1
      have hs := List.pairwise_iff_getElem.1 (defs_sorted l 0)
      rcases Nat.lt_trichotomy j j2 with hlt | heq | hgt
      · have := h4 j2 hj2 hlt (by omega)
        rw [hje, (cnt_iff nm a (i, d)).2 ⟨g3, g2⟩] at this
        cases this
      · subst heq; rw [hje]
      · have h5 := hs j2 j hj2 h hgt
        rw [hje] at h5
        exact absurd hc.1 (g4 _ _ (List.getElem_mem h) h5 hc.2)

def sumX : List Tz → Nat
  | [] => 0
  | t :: l => t.x.size + sumX l
theorem sumX_append : ∀ a b : List Tz, sumX (a ++ b) = sumX a + sumX b
  | [], b => by simp [sumX]
  | t :: a, b => by
    have := sumX_append a b
    simp only [List.cons_append, sumX]
    omega
theorem sumX_take (l : List Tz) (k : Nat) (h : k < l.length) : sumX (l.take (k + 1)) = sumX (l.take k) + l[k].x.size := by
  rw [List.take_succ_eq_append_getElem h, sumX_append]
  simp [sumX]
theorem sumX_mem : ∀ (l : List Tz) (t : Tz), t ∈ l → t.x.size ≤ sumX l
  | [], t, h => by cases h
  | u :: l, t, h => by
    simp only [sumX]
    rcases List.mem_cons.1 h with rfl | h
    · omega
    · have := sumX_mem l t h; omega
theorem sumX_le (M : Nat) : ∀ l : List Tz, (∀ t ∈ l, t.x.size ≤ M) → sumX l ≤ l.length * M
  | [], _ => by simp [sumX]
  | u :: l, h => by
    have h1 := sumX_le M l fun t ht => h t (List.mem_cons_of_mem _ ht)
    have h2 := h u (by simp)
    simp only [sumX, List.length_cons, Nat.succ_mul]
    omega

set_option maxHeartbeats 1000000 in
set_option maxRecDepth 100000 in
theorem heavy_any (A : Option Addr) (c : Nat) (l : List Tz) (w : World) (hx : ∀ t ∈ l, t.x.size ≤ 140737488355328) (hl : l.length ≤ 140737488355328) (hR : ZRd w w.heap.size A l) :
    Calls Tryd.prog 9 #[.slice A l.length c, .slice none 0 0] w fun e w' => e = .returned (.bool (!(decide (l.length ≤ 600) && decide (sumX l ≤ 20000)))) ∧ w' = w := by
  have HR := Lib.hid hR
  have HX := Lib.hid hx
  obtain ⟨n, hn⟩ : ∃ n, n = l.length := ⟨_, rfl⟩
  have HN := Lib.hid hn
  rw [← hn] at hl ⊢
  obtain ⟨res, hres⟩ : ∃ res, res = !(decide (n ≤ 600) && decide (sumX l ≤ 20000)) := ⟨_, rfl⟩
  rw [← hres]
  have HRES := Lib.hid hres
  clear hR hx hn hres
  go_enter Tryd.func9, Tryd.ntmps9
  go_wp2_with fail
  go_loop [5, 6] (fun v5 v6 => ∃ (k : Nat) (s : Int), k ≤ n ∧ v6 = .int .i64 k ∧ v5 = .int .i64 s ∧ Hid (n ≤ 600 → s = (sumX (l.take k) : Nat))) (fun _ v6 => n - (intOf v6).toNat)
  case atStart => exact ⟨0, 0, Nat.zero_le _, rfl, rfl, fun _ => by simp [sumX]⟩
  case round =>
    obtain ⟨k, s, hk, rfl, rfl, hs⟩ := hrel
    by_cases hlt : k < n
    · have hkl : k < l.length := by rw [← HN.out]; exact hlt
      obtain ⟨b, off, rfl, hbb, c0, c1, c2, c3⟩ := HR.out.at_ k hkl
      have hltI : (k : Int) < (n : Int) := by omega
      have hstep := sumX_take l k hkl
      have hxs := HX.out l[k] (List.getElem_mem hkl)
      generalize l[k] = t at *
      obtain ⟨tk, tb, tx, ta⟩ := t
      simp only at c0 c1 c2 c3 hstep hxs
      have HST := Lib.hid hstep
      clear hstep hkl
      by_cases h6 : n ≤ 600
      · have hs2 := hs.out h6
        have hbnd := sumX_le 140737488355328 (l.take k) fun t ht => HX.out t (List.mem_of_mem_take ht)
        have hk6 : (l.take k).length * 140737488355328 ≤ 600 * 140737488355328 := Nat.mul_le_mul_right _ (by rw [List.length_take]; omega)
        generalize sumX (l.take k) = S at *
        subst hs2
        have b0 : (0 : Int) ≤ (S : Int) := by omega
        have b1 : (S : Int) + tx.size ≤ 9000000000000000000 := by omega
        clear hs hbnd hk6
        go_wp2_with fail
        go_round
        case rel => exact ⟨k + 1, _, by omega, by go_num, rfl, fun _ => by rw [HST.out]; omega⟩
        case measure => simp [intOf]; omega
      · clear hs
        go_wp2_with fail
        go_round
        case rel => exact ⟨k + 1, _, by omega, by go_num, rfl, fun h => absurd h h6⟩
        case measure => simp [intOf]; omega
    · obtain rfl : k = n := by omega
      have HE : Hid (l.take k = l) := List.take_of_length_le (by rw [← HN.out]; exact Nat.le_refl _)
      have hltI : ¬ (k : Int) < (k : Int) := by omega
      clear hlt
      by_cases h6 : k ≤ 600
      · have hs2 := hs.out h6
        rw [HE.out] at hs2
        have q1 : ¬ (600 : Int) < (k : Int) := by omega
        by_cases h2 : sumX l ≤ 20000
        · have q2 : ¬ (20000 : Int) < s := by omega
          have HT : Hid (res = false) := by unfold Hid; rw [HRES.out]; simp [h6, h2]
          clear hs2 hs h6 h2
          go_wp2_with fail
          go_ret
          exact ⟨by rw [HT.out]; rfl, rfl⟩
        · have q2 : (20000 : Int) < s := by omega
          have HT : Hid (res = true) := by unfold Hid; rw [HRES.out]; simp [h2]
          clear hs2 hs h6 h2
          go_wp2_with fail
          go_ret
          exact ⟨by rw [HT.out]; rfl, rfl⟩
      · have q1 : (600 : Int) < (k : Int) := by omega
        have HT : Hid (res = true) := by unfold Hid; rw [HRES.out]; simp [h6]
        clear hs h6
        go_wp2_with fail
        go_ret
        exact ⟨by rw [HT.out]; rfl, rfl⟩

end Go.Proofs.YtjdpkhjoecfhlaaDoor

namespace Go.Proofs.YtjdpkhjoecfhlaaDoor
open Go.RowKit Go.Maps Go.Shelf

theorem zrd_take {w : World} {B : Nat} {A : Option Addr} {l : List Tz} (h : ZRd w B A l) (a : Nat) : ZRd w B A (l.take a) := by
  have e : cellsZ l = cellsZ (l.take a) ++ cellsZ (l.drop a) := by
    unfold cellsZ
    rw [← List.flatMap_append, List.take_append_drop]
  unfold ZRd at h ⊢
  rw [e] at h
  exact fun hl => by
    obtain ⟨b, off, e1, e2, e3⟩ := h (by rw [List.length_append]; omega)
    exact ⟨b, off, e1, e2, fun j u hj => e3 j u (by rw [List.getElem?_append_left (List.getElem?_eq_some_iff.1 hj).1]; exact hj)⟩

theorem DefRow.at_ {w : World} {B : Nat} {T : TypeId} {A : Option Addr} {N c : Nat} {ds : List (Nat × Dfn)} (h : DefRow w B T (.slice A N c) ds) (hN : N = ds.length) (k : Nat) (hk : k < ds.length) : ∃ g v, A = some ⟨g, 0, none⟩ ∧ g < w.heap.size ∧ w.cell? ⟨g, k * 6, none⟩ = some (.string ds[k].2.nm) ∧ w.cell? ⟨g, k * 6 + 1, none⟩ = some (.int .i64 (ds[k].1 : Nat)) ∧ w.cell? ⟨g, k * 6 + 2, none⟩ = some v ∧ w.cell? ⟨g, k * 6 + 3, none⟩ = some (.bool ds[k].2.fn) ∧ w.cell? ⟨g, k * 6 + 4, none⟩ = some (.string (bodyB ds[k].2)) ∧ w.cell? ⟨g, k * 6 + 5, none⟩ = some (.bool ds[k].2.gone) ∧ w.ownsRow 0 9 1 v ds[k].2.ps.length (ds[k].2.ps.map Value.string) := by
  subst hN
  obtain ⟨es, h1, h2, h3⟩ := h
  have hlen : es.length = ds.length := by rw [← h1, List.length_map]
  have hke : k < es.length := by omega
  obtain ⟨g, cap, e, hgb, hgl⟩ := h2.form (by omega)
  injection e with e1 e2 e3
  have hd : ds[k] = es[k].1 := by simp only [← h1, List.getElem_map]
  have hc : ∀ j, j < 6 → w.cell? ⟨g, k * 6 + j, none⟩ = (cellM es[k])[j]? := fun j hj => by
    have h4 := h2
    rw [e1] at h4
    rw [h4.cellAt (k * 6 + j) (by rw [← hlen]; omega), cellsM_get es k hke j hj]
  have c0 := hc 0 (by omega)
  have c1 := hc 1 (by omega)
  have c2 := hc 2 (by omega)
  have c3 := hc 3 (by omega)
  have c4 := hc 4 (by omega)
  have c5 := hc 5 (by omega)
  have h5 := h3 es[k] (List.getElem_mem hke)
  rw [hd]
  exact ⟨g, es[k].2, e1, hgl, c0, c1, c2, c3, c4, c5, h5⟩
theorem lastIx_step (nm : ByteArray) (a : Nat) (ds : List (Nat × Dfn)) (k : Nat) (h : k < ds.length) : lastIx nm a ds (k + 1) = if cnt nm a ds[k] = true then (k : Int) else lastIx nm a ds k := by
  rw [lastIx, List.getElem?_eq_getElem h]

set_option maxHeartbeats 1000000 in
set_option maxRecDepth 100000 in
theorem macroBefore_any (n0 : Nat) (A : Option Addr) (c : Nat) (l : List Tz) (nm : ByteArray) (at_ : Int) (w : World) (hG : LexG n0 w) (hl : l.length ≤ 140737488355328) (hx : ∀ t ∈ l, t.x.size ≤ 140737488355328) (hlc : l.length ≤ c) (hR : ZRd w w.heap.size A l) (ha1 : -9223372036854775808 ≤ at_) (ha2 : at_ ≤ 9223372036854775807) :
    Calls Tryd.prog 4 #[.slice A l.length c, .string nm, .int .i64 at_] w fun e w' => e = .returned (.bool true) ∧ Below w.heap.size w w' := by
  have HV := heavy_any A c l w hx hl hR
  have HAW : Hid (∀ W, Below w.heap.size w W → Calls Tryd.prog 5 #[] W fun e w' => e = .returned (.bool true) ∧ Below W.heap.size W w') := fun W hW => awake_any n0 W (hG.below hW)
  obtain ⟨hb, hhb⟩ : ∃ hb, hb = !(decide (l.length ≤ 600) && decide (sumX l ≤ 20000)) := ⟨_, rfl⟩
  rw [← hhb] at HV
  have HHB := Lib.hid hhb
  have HHV := Lib.hid HV
  clear hhb HV
  by_cases hin : hb = false ∧ 0 ≤ at_ ∧ at_ ≤ l.length
  · obtain ⟨rfl, hat0, hat1⟩ := hin
    have h6 : l.length ≤ 600 ∧ sumX l ≤ 20000 := by have := HHB.out; simpa using this
    obtain ⟨a, rfl⟩ := Int.eq_ofNat_of_zero_le hat0
    have hal : a ≤ l.length := by omega
    have hxs : ∀ t ∈ l, t.x.size ≤ 20001 := fun t ht => by have := sumX_mem l t ht; omega
    have HF1 : Hid (∀ W, Below w.heap.size w W → Calls Tryd.prog 10 #[.slice A l.length c, .string nm, .int .i64 (a : Nat)] W fun e w' => Below W.heap.size W w' ∧ FindM W.heap.size (findK nm l a) e w') := fun W hW => by
      have h := Find_any n0 A c l nm a W (hG.below hW) h6.1 hxs hlc ((hR.below hW).up hW.size) ha1 ha2
      rw [show (max 0 (min (a : Int) (l.length : Int))).toNat = a by omega] at h
      exact h
    have HF2 : Hid (∀ W, Below w.heap.size w W → Calls Tryd.prog 10 #[.slice A a c, .string nm, .int .i64 (a : Nat)] W fun e w' => Below W.heap.size W w' ∧ FindM W.heap.size (findK nm l a) e w') := fun W hW => by
      have h := Find_any n0 A c (l.take a) nm a W (hG.below hW) (by rw [List.length_take]; omega) (fun t ht => hxs t (List.mem_of_mem_take ht)) (by rw [List.length_take]; omega) ((zrd_take hR a).below hW |>.up hW.size) ha1 ha2
      rw [List.length_take, Nat.min_eq_left hal, show (max 0 (min (a : Int) (a : Int))).toNat = a by omega, findK_take] at h
      exact h
    have HDS : Hid (∀ W, Below w.heap.size w W → Calls Tryd.prog 11 #[.slice A l.length c] W fun e w' => ∃ v, e = .returned v ∧ Below W.heap.size W w' ∧ DefRow w' W.heap.size 27 v (defsF 0 l)) := fun W hW => defs_any n0 A c l W (hG.below hW) h6.1 hxs ((hR.below hW).up hW.size)
    have HLA := Lib.hid (last_is nm l a)
    have HDL : Hid ((defsF 0 l).length ≤ 600) := by have := defsF_len 0 l; unfold Hid; omega
    obtain ⟨O, hO⟩ : ∃ O, O = findK nm l a := ⟨_, rfl⟩
    rw [← hO] at HF1 HF2
    have HO := Lib.hid hO
    have HFS : Hid (∀ i d, O = some (i, d) → findAny nm l a = some (i, d) ∧ d.gone = false ∧ i < a ∧ d.nm = nm) := fun i d h => by
      rw [hO] at h
      unfold findK at h
      rw [Option.filter_eq_some_iff] at h
      obtain ⟨h1, h2, h3, h4⟩ := And.intro h.1 (findAny_some nm l a i d h.1)
      exact ⟨h.1, by simpa using h.2, h3, h4.1⟩
    obtain ⟨n, hn⟩ : ∃ n, n = l.length := ⟨_, rfl⟩
    rw [← hn] at HHV HF1 HDS hal hlc ⊢
    have q1 : ¬ (a : Int) < 0 := by omega
    have q2 : ¬ (n : Int) < (a : Int) := by omega
    have q3 : a ≤ c := by omega
    have q4 : (a : Int) ≤ (c : Int) := by omega
    have q5 : 0 ≤ (a : Int) := by omega
    clear hO hn hG hl hx hR ha1 ha2 hat0 hat1 h6 hxs
    go_enter Tryd.func4, Tryd.ntmps4
    go_wp2_with fail
    refine HHV.out.mono ?_
    rintro e w1 ⟨rfl, rfl⟩
    go_wp2_with fail
    cases O with
    | none =>
      refine (HF1.out _ (Below.refl _ _)).mono ?_
      rintro e w2 ⟨hb2, hr2⟩
      have he : e = .returned (.tuple #[zeroM, .bool false]) := hr2
      subst he
      unfold zeroM
      clear hr2
      have hb2' : Below w1.heap.size w1 (w2.alloc (.cells zeroA6 27)) := hb2.alloc hb2.size _
      have HB2 := Lib.hid hb2'
      clear hb2'
      go_wp2_with fail
      refine (HF2.out _ HB2.out).mono ?_
      rintro e w3 ⟨hb3, hr3⟩
      have he : e = .returned (.tuple #[zeroM, .bool false]) := hr3
      subst he
      unfold zeroM
      clear hr3
      have K1 := (Blk.new w2 27 zeroA6).below hb3 (Blk.new w2 _ _).lt
      have HK1 := Lib.hid K1
      have hb3' := (HB2.out.trans (hb3.mono HB2.out.size)).alloc (HB2.out.trans (hb3.mono HB2.out.size)).size (.cells zeroA6 27)
      have HB3 := Lib.hid hb3'
      have hlt2 : w2.heap.size < w3.heap.size := K1.lt
      clear hb3 hb3' hb2 K1
      go_wp2_with fail
      refine (HDS.out _ HB3.out).mono ?_
      rintro e w4 ⟨v, rfl, hb4, hrow⟩
      have K1 := (HK1.out.alloc (.cells zeroA6 27)).below hb4 (by have := HK1.out.lt; simp; omega)
      have K2 := (Blk.new w3 27 zeroA6).below hb4 (Blk.new w3 _ _).lt
      have HB4 := Lib.hid (HB3.out.trans (hb4.mono HB3.out.size))
      obtain ⟨A3, c3, rfl⟩ := hrow.form
      have HROW := Lib.hid hrow
      obtain ⟨ds, hds⟩ : ∃ ds, ds = defsF 0 l := ⟨_, rfl⟩
      rw [← hds] at HROW HLA HDL ⊢
      clear hds hrow hb4
      obtain ⟨N, hN⟩ : ∃ N, N = ds.length := ⟨_, rfl⟩
      rw [← hN] at HROW HDL ⊢
      have HNN := Lib.hid hN
      have hN6 : N ≤ 600 := HDL.out
      clear hN
      have z0 := K1.cell 0
      have z1 := K1.cell 1
      have z2 := K1.cell 2
      have z3 := K1.cell 3
      have z4 := K1.cell 4
      have z5 := K1.cell 5
      simp at z0 z1 z2 z3 z4 z5
      have y0 := K2.cell 0
      have y1 := K2.cell 1
      have y2 := K2.cell 2
      have y3 := K2.cell 3
      have y4 := K2.cell 4
      have y5 := K2.cell 5
      simp at y0 y1 y2 y3 y4 y5
      clear HF1 HF2 HDS HHV HK1 K1 K2
      go_wp2_with fail
      go_loop [12, 13] (fun v12 v13 => ∃ k : Nat, k ≤ N ∧ v13 = .int .i64 k ∧ v12 = .int .i64 (lastIx nm a ds k)) (fun _ v13 => N - (intOf v13).toNat)
      case atStart => exact ⟨0, Nat.zero_le _, rfl, rfl⟩
      case round =>
        obtain ⟨k, hk, rfl, rfl⟩ := hrel
        by_cases hlt : k < N
        · have hkd : k < ds.length := by rw [← HNN.out]; exact hlt
          obtain ⟨g, v, rfl, hg2, e0, e1, e2, e3, e4, e5, _⟩ := HROW.out.at_ HNN.out k hkd
          have hst := lastIx_step nm a ds k hkd
          generalize ds[k] = e at *
          obtain ⟨ei, en, ep, ef, eb, eg⟩ := e
          dsimp only at e0 e1 e2 e3 e4 e5
          have HST := Lib.hid hst
          have w1' : (k : Int) < (N : Int) := by omega
          clear hst hkd
          by_cases hcn : en = nm
          · subst hcn
            by_cases hca : ei < a
            · have v1 : (ei : Int) < (a : Int) := by omega
              have HS : Hid (lastIx en a ds (k + 1) = (k : Int)) := by unfold Hid; rw [HST.out, if_pos ((cnt_iff en a (ei, ⟨en, ep, ef, eb, eg⟩)).2 ⟨rfl, hca⟩)]
              clear HST
              go_wp2_with fail
              go_round
              case rel => exact ⟨k + 1, by omega, by go_num, by rw [HS.out]⟩
              case measure => simp [intOf]; omega
            · have v1 : ¬ (ei : Int) < (a : Int) := by omega
              have HS : Hid (lastIx en a ds (k + 1) = lastIx en a ds k) := by unfold Hid; rw [HST.out, if_neg (fun h => hca ((cnt_iff en a (ei, ⟨en, ep, ef, eb, eg⟩)).1 h).2)]
              clear HST
              go_wp2_with fail
              go_round
              case rel => exact ⟨k + 1, by omega, by go_num, by rw [HS.out]⟩
              case measure => simp [intOf]; omega
          · have v2 : (en.toList == nm.toList) = false := by
              rw [beq_eq_false_iff_ne, Lib.toList_data, Lib.toList_data]
              exact fun e => hcn (ByteArray.ext (Array.toList_inj.1 e))
            have HS : Hid (lastIx nm a ds (k + 1) = lastIx nm a ds k) := by unfold Hid; rw [HST.out, if_neg (fun h => hcn ((cnt_iff _ a (ei, ⟨en, ep, ef, eb, eg⟩)).1 h).1)]
            clear HST hcn
            go_wp2_with fail
            go_round
            case rel => exact ⟨k + 1, by omega, by go_num, by rw [HS.out]⟩
            case measure => simp [intOf]; omega
        · obtain rfl : k = N := by omega
          have hltI : ¬ (k : Int) < (k : Int) := by omega
          clear hlt
          rcases HLA.out with ⟨h1, h2⟩ | ⟨j, hj, h1, h2⟩
          · rw [← HNN.out] at h1
            rw [h1]
            clear h1 h2
            go_wp2_with fail
            refine (HAW.out _ HB4.out).mono ?_
            rintro e w5 ⟨rfl, hb7⟩
            have HB7 := Lib.hid (HB4.out.trans (hb7.mono HB4.out.size))
            clear hb7
            go_wp2_with fail
            go_ret
            exact ⟨rfl, HB7.out⟩
          · rw [← HNN.out] at h1
            rw [h1]
            have hg3 : ds[j].2.gone = true := by
              have h3 := HO.out
              unfold findK at h3
              rw [h2] at h3
              simpa using h3.symm
            obtain ⟨g, v, rfl, hg2, e0, e1, e2, e3, e4, e5, _⟩ := HROW.out.at_ HNN.out j hj
            have hjk : j < k := by rw [HNN.out]; exact hj
            generalize ds[j] = e at *
            obtain ⟨ei, en, ep, ef, eb, eg⟩ := e
            dsimp only at e0 e1 e2 e3 e4 e5 hg3
            subst hg3
            have w1' : (j : Int) < (k : Int) := by omega
            clear h1 h2
            go_wp2_with fail
            refine (HAW.out _ HB4.out).mono ?_
            rintro e w5 ⟨rfl, hb7⟩
            have HB7 := Lib.hid (HB4.out.trans (hb7.mono HB4.out.size))
            clear hb7
            go_wp2_with fail
            go_ret
            exact ⟨rfl, HB7.out⟩
    | some q =>
      obtain ⟨i, d⟩ := q
      obtain ⟨hfa, hg, hia, hnm⟩ := HFS.out i d rfl
      obtain ⟨bd, hbd⟩ : ∃ bd, bd = bodyB d := ⟨_, rfl⟩
      have HBD := Lib.hid hbd
      obtain ⟨dnm, dps, dfn, dbw, dgn⟩ := d
      simp only at hg hnm
      subst hg
      subst hnm
      have HFA := Lib.hid hfa
      have u1 : (i : Int) < (a : Int) := by omega
      have u2 : ¬ (a : Int) ≤ (i : Int) := by omega
      have u3 : ¬ a ≤ i := by omega
      clear hbd hfa
      refine (HF1.out _ (Below.refl _ _)).mono ?_
      rintro e w2 ⟨hb2, hr2⟩
      obtain ⟨A5, n5, c5, rfl, hO5⟩ := hr2
      dsimp only
      rw [← HBD.out]
      clear hO5
      have hb2' : Below w1.heap.size w1 (w2.alloc (.cells #[.string dnm, .int .i64 (i : Nat), .slice A5 n5 c5, .bool dfn, .string bd, .bool false] 27)) := hb2.alloc hb2.size _
      have HB2 := Lib.hid hb2'
      clear hb2'
      go_wp2_with fail
      refine (HF2.out _ HB2.out).mono ?_
      rintro e w3 ⟨hb3, hr3⟩
      obtain ⟨A6, n6, c6, rfl, hO6⟩ := hr3
      dsimp only
      rw [← HBD.out]
      clear hO6
      have K1 := (Blk.new w2 27 #[.string dnm, .int .i64 (i : Nat), .slice A5 n5 c5, .bool dfn, .string bd, .bool false]).below hb3 (Blk.new w2 _ _).lt
      have HK1 := Lib.hid K1
      have hb3' := (HB2.out.trans (hb3.mono HB2.out.size)).alloc (HB2.out.trans (hb3.mono HB2.out.size)).size (.cells #[.string dnm, .int .i64 (i : Nat), .slice A6 n6 c6, .bool dfn, .string bd, .bool false] 27)
      have HB3 := Lib.hid hb3'
      have hlt2 : w2.heap.size < w3.heap.size := K1.lt
      clear hb3 hb3' hb2 K1
      go_wp2_with fail
      refine (HDS.out _ HB3.out).mono ?_
      rintro e w4 ⟨v, rfl, hb4, hrow⟩
      have K1 := (HK1.out.alloc (.cells #[.string dnm, .int .i64 (i : Nat), .slice A6 n6 c6, .bool dfn, .string bd, .bool false] 27)).below hb4 (by have := HK1.out.lt; simp; omega)
      have K2 := (Blk.new w3 27 #[.string dnm, .int .i64 (i : Nat), .slice A6 n6 c6, .bool dfn, .string bd, .bool false]).below hb4 (Blk.new w3 _ _).lt
      have HB4 := Lib.hid (HB3.out.trans (hb4.mono HB3.out.size))
      obtain ⟨A3, c3, rfl⟩ := hrow.form
      have HROW := Lib.hid hrow
      obtain ⟨ds, hds⟩ : ∃ ds, ds = defsF 0 l := ⟨_, rfl⟩
      rw [← hds] at HROW HLA HDL ⊢
      clear hds hrow hb4
      obtain ⟨N, hN⟩ : ∃ N, N = ds.length := ⟨_, rfl⟩
      rw [← hN] at HROW HDL ⊢
      have HNN := Lib.hid hN
      have hN6 : N ≤ 600 := HDL.out
      clear hN
      have z0 := K1.cell 0
      have z1 := K1.cell 1
      have z2 := K1.cell 2
      have z3 := K1.cell 3
      have z4 := K1.cell 4
      have z5 := K1.cell 5
      simp at z0 z1 z2 z3 z4 z5
      have y0 := K2.cell 0
      have y1 := K2.cell 1
      have y2 := K2.cell 2
      have y3 := K2.cell 3
      have y4 := K2.cell 4
      have y5 := K2.cell 5
      simp at y0 y1 y2 y3 y4 y5
      clear HF1 HF2 HDS HHV HK1 K1 K2
      go_wp2_with fail
      go_loop [12, 13] (fun v12 v13 => ∃ k : Nat, k ≤ N ∧ v13 = .int .i64 k ∧ v12 = .int .i64 (lastIx dnm a ds k)) (fun _ v13 => N - (intOf v13).toNat)
      case atStart => exact ⟨0, Nat.zero_le _, rfl, rfl⟩
      case round =>
        obtain ⟨k, hk, rfl, rfl⟩ := hrel
        by_cases hlt : k < N
        · have hkd : k < ds.length := by rw [← HNN.out]; exact hlt
          obtain ⟨g, v, rfl, hg2, e0, e1, e2, e3, e4, e5, _⟩ := HROW.out.at_ HNN.out k hkd
          have hst := lastIx_step dnm a ds k hkd
          generalize ds[k] = e at *
          obtain ⟨ei, en, ep, ef, eb, eg⟩ := e
          dsimp only at e0 e1 e2 e3 e4 e5
          have HST := Lib.hid hst
          have w1' : (k : Int) < (N : Int) := by omega
          clear hst hkd
          by_cases hcn : en = dnm
          · subst hcn
            by_cases hca : ei < a
            · have v1 : (ei : Int) < (a : Int) := by omega
              have HS : Hid (lastIx en a ds (k + 1) = (k : Int)) := by unfold Hid; rw [HST.out, if_pos ((cnt_iff en a (ei, ⟨en, ep, ef, eb, eg⟩)).2 ⟨rfl, hca⟩)]
              clear HST
              go_wp2_with fail
              go_round
              case rel => exact ⟨k + 1, by omega, by go_num, by rw [HS.out]⟩
              case measure => simp [intOf]; omega
            · have v1 : ¬ (ei : Int) < (a : Int) := by omega
              have HS : Hid (lastIx en a ds (k + 1) = lastIx en a ds k) := by unfold Hid; rw [HST.out, if_neg (fun h => hca ((cnt_iff en a (ei, ⟨en, ep, ef, eb, eg⟩)).1 h).2)]
              clear HST
              go_wp2_with fail
              go_round
              case rel => exact ⟨k + 1, by omega, by go_num, by rw [HS.out]⟩
              case measure => simp [intOf]; omega
          · have v2 : (en.toList == dnm.toList) = false := by
              rw [beq_eq_false_iff_ne, Lib.toList_data, Lib.toList_data]
              exact fun e => hcn (ByteArray.ext (Array.toList_inj.1 e))
            have HS : Hid (lastIx dnm a ds (k + 1) = lastIx dnm a ds k) := by unfold Hid; rw [HST.out, if_neg (fun h => hcn ((cnt_iff _ a (ei, ⟨en, ep, ef, eb, eg⟩)).1 h).1)]
            clear HST hcn
            go_wp2_with fail
            go_round
            case rel => exact ⟨k + 1, by omega, by go_num, by rw [HS.out]⟩
            case measure => simp [intOf]; omega
        · obtain rfl : k = N := by omega
          have hltI : ¬ (k : Int) < (k : Int) := by omega
          clear hlt
          rcases HLA.out with ⟨h1, h2⟩ | ⟨j, hj, h1, h2⟩
          · rw [HFA.out] at h2
            cases h2
          · rw [← HNN.out] at h1
            rw [h1]
            rw [HFA.out] at h2
            injection h2 with h2
            obtain ⟨g, v, rfl, hg2, e0, e1, e2, e3, e4, e5, _⟩ := HROW.out.at_ HNN.out j hj
            have hjk : j < k := by rw [HNN.out]; exact hj
            rw [← h2] at e0 e1 e3 e4 e5
            dsimp only at e0 e1 e2 e3 e4 e5
            have w1' : (j : Int) < (k : Int) := by omega
            clear h1 h2
            go_wp2_with fail
            go_still_tail 12, (by kernel_rfl)
            have HB5 : Hid (Below w1.heap.size w1 w4.drew) := HB4.out.drew
            change wpList _ _ _ _ _ w4.drew
            generalize w4.drew = w5 at *
            go_wp2_with fail
            refine (HAW.out _ HB5.out).mono ?_
            rintro e w6 ⟨rfl, hb7⟩
            have HB7 := Lib.hid (HB5.out.trans (hb7.mono HB5.out.size))
            clear hb7
            go_wp2_with fail
            go_ret
            exact ⟨rfl, HB7.out⟩
  · obtain ⟨n, hn⟩ : ∃ n, n = l.length := ⟨_, rfl⟩
    rw [← hn] at HHV hin ⊢
    have HB4 : Hid (Below w.heap.size w w) := Below.refl _ _
    clear hG hx hlc hR hl ha1 ha2 HHB hn
    cases hb with
    | true =>
      clear hin
      go_enter Tryd.func4, Tryd.ntmps4
      go_wp2_with fail
      refine HHV.out.mono ?_
      rintro e w1 ⟨rfl, rfl⟩
      go_wp2_with fail
      refine (HAW.out _ HB4.out).mono ?_
      rintro e w5 ⟨rfl, hb7⟩
      have HB7 := Lib.hid (HB4.out.trans (hb7.mono HB4.out.size))
      clear hb7
      go_wp2_with fail
      go_ret
      exact ⟨rfl, HB7.out⟩
    | false =>
      by_cases h0 : at_ < 0
      · clear hin
        go_enter Tryd.func4, Tryd.ntmps4
        go_wp2_with fail
        refine HHV.out.mono ?_
        rintro e w1 ⟨rfl, rfl⟩
        go_wp2_with fail
        refine (HAW.out _ HB4.out).mono ?_
        rintro e w5 ⟨rfl, hb7⟩
        have HB7 := Lib.hid (HB4.out.trans (hb7.mono HB4.out.size))
        clear hb7
        go_wp2_with fail
        go_ret
        exact ⟨rfl, HB7.out⟩
      · have h1 : (n : Int) < at_ := by
          by_cases h2 : (n : Int) < at_
          · exact h2
          · exact absurd ⟨rfl, by omega, by omega⟩ hin
        clear hin
        go_enter Tryd.func4, Tryd.ntmps4
        go_wp2_with fail
        refine HHV.out.mono ?_
        rintro e w1 ⟨rfl, rfl⟩
        go_wp2_with fail
        refine (HAW.out _ HB4.out).mono ?_
        rintro e w5 ⟨rfl, hb7⟩
        have HB7 := Lib.hid (HB4.out.trans (hb7.mono HB4.out.size))
        clear hb7
        go_wp2_with fail
        go_ret
        exact ⟨rfl, HB7.out⟩

end Go.Proofs.YtjdpkhjoecfhlaaDoor
