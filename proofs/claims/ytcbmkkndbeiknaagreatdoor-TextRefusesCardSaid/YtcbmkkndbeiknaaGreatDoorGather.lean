import Derived.Test.YtcbmkkndbeiknaaGreatDoorSide
namespace Go.Proofs.YtcbmkkndbeiknaaGreatDoor
open Go.RowKit Go.Shelf

def nx (l : List St) (k : Nat) : Nat := k + nextF (l.drop k)

theorem nx_ge (l : List St) (k : Nat) : k ≤ nx l k := by unfold nx; omega
theorem nx_le (l : List St) (k : Nat) (h : k ≤ l.length) : nx l k ≤ l.length := by
  have := nextF_le (l.drop k)
  rw [List.length_drop] at this
  unfold nx; omega

/-- where a hunk's changes end that reach place e, and the next change -/
def stretch (l : List St) (ctx : Nat) : Nat → Nat → Nat × Nat
  | 0, e => (e, nx l e)
  | f + 1, e => if nx l e < l.length ∧ nx l e - e ≤ 2 * ctx then stretch l ctx f (nx l e + 1) else (e, nx l e)

theorem stretch_le (l : List St) (ctx : Nat) : ∀ f e, e ≤ l.length → e ≤ (stretch l ctx f e).1 ∧ (stretch l ctx f e).1 ≤ l.length ∧ (stretch l ctx f e).2 = nx l (stretch l ctx f e).1
  | 0, e, h => ⟨Nat.le_refl _, h, rfl⟩
  | f + 1, e, h => by
    unfold stretch
    by_cases c : nx l e < l.length ∧ nx l e - e ≤ 2 * ctx
    · rw [if_pos c]
      have := stretch_le l ctx f (nx l e + 1) (by omega)
      have := nx_ge l e
      omega
    · rw [if_neg c]; exact ⟨Nat.le_refl _, h, rfl⟩

/-- the places where the hunks begin and end, from a change on -/
def gatherGo (l : List St) (ctx : Nat) : Nat → Nat → List (Nat × Nat)
  | 0, _ => []
  | f + 1, first => if first < l.length then
      (first - ctx, min ((stretch l ctx l.length (first + 1)).1 + ctx) l.length) :: gatherGo l ctx f (stretch l ctx l.length (first + 1)).2
    else []

def gatherP (l : List St) (ctx : Nat) : List (Nat × Nat) := gatherGo l ctx (l.length + 1) (nx l 0)

def toHk (l : List St) (p : Nat × Nat) : Hk := ⟨sideA (l.take p.1), sideB (l.take p.1), (l.take p.2).drop p.1⟩
def gatherF (l : List St) (ctx : Nat) : List Hk := (gatherP l ctx).map (toHk l)

def cellsH (b off : Nat) (l : List St) (ps : List (Nat × Nat)) : List Value :=
  ps.flatMap fun p => [.int .i64 (sideA (l.take p.1)), .int .i64 (sideB (l.take p.1)), .slice (some ⟨b, off + p.1 * 2, none⟩) (p.2 - p.1) (p.2 - p.1)]

theorem infoHk : (Tryz.prog.info? 66).map (fun i => (i.zero, i.size, i.bytes)) = some (some (.agg #[.int .i64 0, .int .i64 0, .slice none 0 0]), 3, 40) := by kernel_rfl

theorem sideA_split (l : List St) (i j : Nat) (h : i ≤ j) : sideA (l.take j) = sideA (l.take i) + sideA ((l.take j).drop i) := by
  have key : ∀ a b : List St, sideA (a ++ b) = sideA a + sideA b := by
    intro a b
    induction a with
    | nil => simp [sideA]
    | cons x a ih => simp only [List.cons_append, sideA, ih]; omega
  rw [← key]
  congr 1
  conv => lhs; rw [← List.take_append_drop i (l.take j)]
  rw [List.take_take, Nat.min_eq_left h]

theorem sideB_split (l : List St) (i j : Nat) (h : i ≤ j) : sideB (l.take j) = sideB (l.take i) + sideB ((l.take j).drop i) := by
  have key : ∀ a b : List St, sideB (a ++ b) = sideB a + sideB b := by
    intro a b
    induction a with
    | nil => simp [sideB]
    | cons x a ih => simp only [List.cons_append, sideB, ih]; omega
  rw [← key]
  congr 1
  conv => lhs; rw [← List.take_append_drop i (l.take j)]
  rw [List.take_take, Nat.min_eq_left h]

theorem cellsH_get (b off : Nat) (l : List St) : ∀ (ps : List (Nat × Nat)) (i : Nat) (h : i < ps.length), (cellsH b off l ps)[i * 3]? = some (.int .i64 (sideA (l.take ps[i].1))) ∧ (cellsH b off l ps)[i * 3 + 1]? = some (.int .i64 (sideB (l.take ps[i].1))) ∧ (cellsH b off l ps)[i * 3 + 2]? = some (.slice (some ⟨b, off + ps[i].1 * 2, none⟩) (ps[i].2 - ps[i].1) (ps[i].2 - ps[i].1))
  | [], _, h => by simp at h
  | p :: ps, 0, _ => by simp [cellsH]
  | p :: ps, i + 1, h => by
    have ih := cellsH_get b off l ps i (by simpa using h)
    have e : ∀ j, (cellsH b off l (p :: ps))[j + 3]? = (cellsH b off l ps)[j]? := fun j => by
      show (_ ++ cellsH b off l ps)[j + 3]? = _
      rw [List.getElem?_append_right (by simp)]
      simp
    rw [show (i + 1) * 3 = i * 3 + 3 by omega, show i * 3 + 3 + 1 = i * 3 + 1 + 3 by omega, show i * 3 + 3 + 2 = i * 3 + 2 + 3 by omega, e, e, e]
    exact ih

theorem hsl_of_own {w : World} {base ba oa n : Nat} {v : Value} {l : List St} {ps : List (Nat × Nat)} (hn : n = ps.length) (h : w.ownsRow base 66 3 v n (cellsH ba oa l ps)) (hs : ∀ p ∈ ps, SSl w w.heap.size (some ⟨ba, oa, none⟩) l)
    (hps : ∀ p ∈ ps, p.1 ≤ p.2 ∧ p.2 ≤ l.length ∧ 0 < l.length) : ∃ A' c', v = .slice A' (ps.map (toHk l)).length c' ∧ HSl w w.heap.size A' (ps.map (toHk l)) := by
  subst hn
  obtain ⟨A', c', rfl⟩ : ∃ A' c', v = .slice A' ps.length c' := by
    rcases h.2 with ⟨e, e0⟩ | ⟨g, cap, cur, e, _⟩
    · exact ⟨none, 0, by rw [e, e0]⟩
    · exact ⟨_, _, e⟩
  refine ⟨A', c', by simp, fun i hi => ?_⟩
  have hi' : i < ps.length := by simpa using hi
  have hlen : 0 < (cellsH ba oa l ps).length := by rw [h.1]; omega
  obtain ⟨g, off, e, hB, hc⟩ := Rd.of_own h hlen
  obtain ⟨h0, h1, h2⟩ := cellsH_get ba oa l ps i hi'
  have hp := hps ps[i] (List.getElem_mem hi')
  have hst : ((l.take ps[i].2).drop ps[i].1).length = ps[i].2 - ps[i].1 := by rw [List.length_drop, List.length_take]; omega
  refine ⟨g, off, some ⟨ba, oa + ps[i].1 * 2, none⟩, ps[i].2 - ps[i].1, e, hB, ?_, ?_, ?_, ?_⟩
  · rw [List.getElem_map]; exact hc _ _ h0
  · rw [List.getElem_map]; have := hc _ _ h1; rwa [← Nat.add_assoc] at this
  · rw [List.getElem_map]; have := hc _ _ h2; rw [← Nat.add_assoc] at this; rw [this]; simp only [toHk, hst]
  · rw [List.getElem_map]; exact (hs ps[i] (List.getElem_mem hi')).part _ _ hp.1 hp.2.1

set_option maxHeartbeats 1000000 in
set_option maxRecDepth 100000 in
theorem gather_any (A : Option Addr) (c : Nat) (l : List St) (ctx : Nat) (w : World) (hl : l.length ≤ 100000) (hc : l.length ≤ c) (hc2 : c ≤ maxLen) (hctx : ctx ≤ 20) (h : SSl w w.heap.size A l) :
    Calls Tryz.prog 36 #[.slice A l.length c, .int .i64 ctx] w fun e w' => ∃ A' c', e = .returned (.slice A' (gatherF l ctx).length c') ∧ HSl w' w'.heap.size A' (gatherF l ctx) ∧ Below w.heap.size w w' := by
  unfold maxLen at hc2
  obtain ⟨i0, hi, hz0, hz1, hz2⟩ := info_parts infoHk
  have hnx0 := nx_le l 0 (Nat.zero_le _)
  have hcall := fun (k : Nat) (hk : k ≤ l.length) (W : World) (hb : Below w.heap.size w W) => nextChange_any A c l k W hk (by omega) ((h.below hb).more hb.size)
  have HC := Lib.hid hcall
  clear hcall
  have h00 := HC.out 0 (Nat.zero_le _) w (Below.refl _ _)
  rw [show 0 + nextF (List.drop 0 l) = nx l 0 from rfl] at h00
  have H00 := Lib.hid h00
  obtain ⟨ba, oa, hba⟩ : ∃ ba oa, 0 < l.length → A = some ⟨ba, oa, none⟩ := by
    by_cases h0 : 0 < l.length
    · obtain ⟨b, off, e, _⟩ := h.at_ 0 h0
      exact ⟨b, off, fun _ => e⟩
    · exact ⟨0, 0, fun g => absurd g h0⟩
  have HBA := Lib.hid hba
  have HH := Lib.hid h
  clear h00 h hba
  go_enter Tryz.func36, Tryz.ntmps36
  go_wp2_with (go_at_call 57; refine H00.out.mono ?_; rintro e w' ⟨rfl, rfl⟩)
  go_loopw [5, 6, 7, 8, 9] (fun v xa xb cn fi wr => ∃ (ps : List (Nat × Nat)) (f cnt first : Nat), fi = .int .i64 first ∧ cn = .int .i64 cnt ∧ xa = .int .i64 (sideA (l.take cnt)) ∧ xb = .int .i64 (sideB (l.take cnt)) ∧
      cnt ≤ first ∧ cnt ≤ first - ctx ∧ first ≤ l.length ∧ l.length + 1 ≤ f + first ∧ ps.length ≤ first ∧ Hid (ps ++ gatherGo l ctx f first = gatherP l ctx) ∧
      Hid (wr.ownsRow w.heap.size 66 3 v ps.length (cellsH ba oa l ps)) ∧ Hid (∀ p ∈ ps, p.1 ≤ p.2 ∧ p.2 ≤ l.length ∧ 0 < l.length) ∧ Below w.heap.size w wr) (fun _ _ _ _ fi _ => l.length - (intOf fi).toNat)
  case atStart => exact ⟨[], l.length + 1, 0, nx l 0, rfl, rfl, by simp [sideA], by simp [sideB], Nat.zero_le _, Nat.zero_le _, hnx0, by omega, Nat.zero_le _, rfl, World.ownsRow_nil _ _ _ _, (fun p hp => by simp at hp), Below.refl _ _⟩
  case round =>
    obtain ⟨ps, f, cnt, first, rfl, rfl, rfl, rfl, k1, k2, k3, k4, k5, hg, ho, hps, hb⟩ := hrel
    have sl1 := sideA_le (l.take cnt)
    have sl2 := sideB_le (l.take cnt)
    have htk : (l.take cnt).length ≤ 100000 := by rw [List.length_take]; omega
    by_cases hlt : first < l.length
    · obtain rfl := HBA.out (by omega)
      have f1 : ∃ f', f = f' + 1 := ⟨f - 1, by omega⟩
      obtain ⟨f', rfl⟩ := f1
      have hg1 := hg.out
      rw [gatherGo, if_pos hlt] at hg1
      have hst := stretch_le l ctx l.length (first + 1) (by omega)
      have hcc := HC.out (first + 1) (by omega) wr hb
      rw [show first + 1 + nextF (List.drop (first + 1) l) = nx l (first + 1) from rfl] at hcc
      have hnx := nx_le l (first + 1) (by omega)
      have hnxg := nx_ge l (first + 1)
      have HCC := Lib.hid hcc
      have HG1 := Lib.hid hg1
      have HST := Lib.hid hst
      clear hg hg1 hst hcc
      go_wp2_with (go_at_call 57; refine HCC.out.mono ?_; rintro e w' ⟨rfl, rfl⟩)
      obtain ⟨wo, rfl⟩ : ∃ wo : World, wo = wr := ⟨_, rfl⟩
      go_loopw [10, 11] (fun en ne wq => ∃ (g e : Nat), en = .int .i64 e ∧ ne = .int .i64 (nx l e) ∧ first + 1 ≤ e ∧ e ≤ l.length ∧ l.length + 1 ≤ g + e ∧ Hid (stretch l ctx g e = stretch l ctx l.length (first + 1)) ∧ wo = wq) (fun en _ _ => l.length + 1 - (intOf en).toNat)
      case atStart => exact ⟨l.length, first + 1, by go_num, rfl, Nat.le_refl _, by omega, by omega, rfl, rfl⟩
      case round =>
        obtain ⟨g, e, rfl, rfl, r1, r2, r3, hsg, rfl⟩ := hrel
        have n1 := nx_le l e r2
        have n2 := nx_ge l e
        obtain ⟨g', rfl⟩ : ∃ g', g = g' + 1 := ⟨g - 1, by omega⟩
        have hs1 := hsg.out
        rw [stretch] at hs1
        by_cases q : nx l e < l.length ∧ nx l e - e ≤ 2 * ctx
        · rw [if_pos q] at hs1
          obtain ⟨q1, q2⟩ := q
          have hcc2 := HC.out (nx l e + 1) (by omega) wo hb
          rw [show nx l e + 1 + nextF (List.drop (nx l e + 1) l) = nx l (nx l e + 1) from rfl] at hcc2
          generalize nx l e = m at *
          have HCC2 := Lib.hid hcc2
          have HS1 := Lib.hid hs1
          clear hs1 hsg hcc2
          go_wp2_with (go_at_call 57; refine HCC2.out.mono ?_; rintro e w' ⟨rfl, rfl⟩)
          go_roundw
          case rel => exact ⟨g', m + 1, by go_num, rfl, by omega, by omega, by omega, HS1.out, (by first | rfl | trivial)⟩
          case measure => simp [intOf]; omega
        · rw [if_neg q] at hs1
          have hG2 := HG1.out
          rw [← hs1] at hG2
          simp only at hG2
          have hnm : nx l e = nx l e := rfl
          have htoB : min (e + ctx) l.length ≤ l.length := Nat.min_le_right _ _
          have htoG : e ≤ min (e + ctx) l.length := by omega
          have hfr1 : cnt ≤ first - ctx := k2
          have sA := sideA_split l cnt (first - ctx) k2
          have sB := sideB_split l cnt (first - ctx) k2
          have slA := sideA_le (l.take (first - ctx))
          have slB := sideB_le (l.take (first - ctx))
          have htk2 : (l.take (first - ctx)).length ≤ 100000 := by rw [List.length_take]; omega
          have hlp : ((l.take (first - ctx)).drop cnt).length = first - ctx - cnt := by rw [List.length_drop, List.length_take]; omega
          have hSS := (HH.out.below hb).part cnt (first - ctx) k2 (by omega)
          have hsd := sides_any (some ⟨ba, oa + cnt * 2, none⟩) (c - cnt) ((l.take (first - ctx)).drop cnt) wo (by omega) (Rd.more hSS hb.size)
          rw [hlp] at hsd
          have HSD := Lib.hid hsd
          have HSA := Lib.hid sA
          have HSB := Lib.hid sB
          have HG2 := Lib.hid hG2
          generalize nx l e = m at *
          have e2 : min ((e : Int) + ctx) l.length = ((min (e + ctx) l.length : Nat) : Int) := by omega
          generalize hto : min (e + ctx) l.length = to_ at *
          have e1 : max ((first : Int) - ctx) 0 = ((first - ctx : Nat) : Int) := by omega
          have hfr2 : first - ctx ≤ first := by omega
          generalize hfr : first - ctx = fr at *
          have HTO := Lib.hid hto
          have HFR := Lib.hid hfr
          have q2 : ¬ (m < l.length ∧ (m : Int) - e ≤ 2 * ctx) := by omega
          clear hs1 hsg hG2 hsd hSS sA sB hlp hto hfr HG1 HST HCC q
          have HK : Calls Tryz.prog 51 #[.slice (some ⟨ba, oa + cnt * 2, none⟩) (fr - cnt) (c - cnt)] wo fun e w' => e = .returned (.tuple #[.int .i64 (sideA ((l.take fr).drop cnt)), .int .i64 (sideB ((l.take fr).drop cnt))]) ∧ Below wo.heap.size wo w' := HSD.out
          have HSD := Lib.hid HK
          clear HK
          generalize hx1 : sideA ((l.take fr).drop cnt) = xa at *
          generalize hx2 : sideB ((l.take fr).drop cnt) = xb at *
          have HSA2 := HSA.out
          have HSB2 := HSB.out
          have bA : sideA (l.take cnt) + xa ≤ 100000 := by omega
          have bB : sideB (l.take cnt) + xb ≤ 100000 := by omega
          clear hx1 hx2 HSA2 HSB2
          by_cases q1 : m < l.length
          · have q3 : ¬ (m : Int) - e ≤ 2 * ctx := by omega
            clear q2
            go_wp2_with fail
            refine HSD.out.mono ?_
            rintro e' w2 ⟨rfl, hb2⟩
            have hgrow : wo.grownBy w2 none := ⟨hb2.os, hb2.tape, hb2.output, hb2.size, fun k hk _ => hb2.block k hk⟩
            have HO2 := Lib.hid (ho.out.kept hgrow (by cases hv : Value.ownBlock u5 <;> simp))
            have hbw : Below w.heap.size w w2 := hb.trans (hb2.mono hb.size)
            have hsz2 := hbw.size
            have HBW := Lib.hid hbw
            clear hgrow hb2 hbw HSD
            have hnw := fun x y z => news_new w2 66 #[x, y, z]
            have HNW := Lib.hid hnw
            clear hnw
            go_wp2_with (at_builtin; refine wpList_append_own _ rfl (.tmp 69) (.tmp 78) 55 rfl w.heap.size 66 i0 _ 3 40 Tryz.underlying55 hi hz0 hz1 hz2 rfl (by decide) _ ps.length (cellsH ba oa l ps) rfl (HO2.out.alloc _) ⟨w2.heap.size, 0, none⟩ 1 1 [.int .i64 (sideA (l.take cnt) + xa), .int .i64 (sideB (l.take cnt) + xb), .slice (some ⟨ba, oa + fr * 2, none⟩) (to_ - fr) (to_ - fr)] rfl rfl (HNW.out _ _ _) (by simp [Value.oneCell']) (by unfold maxLen; omega) (by omega) (by simp; omega) ?_; intro v' w3 hown' hgr _)
            go_roundw
            case rel =>
              refine ⟨ps ++ [(fr, to_)], f', fr, m, rfl, rfl, by rw [HSA.out]; go_num, by rw [HSB.out]; go_num, by omega, by have := HFR.out; omega, n1, by omega, by simp; omega, ?_, ?_, ?_, ?_⟩
              · unfold Hid; rw [← HG2.out]; simp
              · have e : cellsH ba oa l (ps ++ [(fr, to_)]) = cellsH ba oa l ps ++ [.int .i64 (sideA (l.take cnt) + xa), .int .i64 (sideB (l.take cnt) + xb), .slice (some ⟨ba, oa + fr * 2, none⟩) (to_ - fr) (to_ - fr)] := by
                  simp [cellsH, HSA.out, HSB.out]
                unfold Hid
                rw [e, List.length_append]
                exact hown'
              · intro p hp
                rw [List.mem_append, List.mem_singleton] at hp
                rcases hp with hp | rfl
                · exact hps.out p hp
                · have := HTO.out; exact ⟨by simp only; omega, by simp only; omega, by omega⟩
              · exact (HBW.out.alloc hsz2 _).grown hgr (by simp; omega) (fun k e => (HO2.out.lt k e).1)
            case measure => simp [intOf]; omega
          · clear q2
            go_wp2_with fail
            refine HSD.out.mono ?_
            rintro e' w2 ⟨rfl, hb2⟩
            have hgrow : wo.grownBy w2 none := ⟨hb2.os, hb2.tape, hb2.output, hb2.size, fun k hk _ => hb2.block k hk⟩
            have HO2 := Lib.hid (ho.out.kept hgrow (by cases hv : Value.ownBlock u5 <;> simp))
            have hbw : Below w.heap.size w w2 := hb.trans (hb2.mono hb.size)
            have hsz2 := hbw.size
            have HBW := Lib.hid hbw
            clear hgrow hb2 hbw HSD
            have hnw := fun x y z => news_new w2 66 #[x, y, z]
            have HNW := Lib.hid hnw
            clear hnw
            go_wp2_with (at_builtin; refine wpList_append_own _ rfl (.tmp 69) (.tmp 78) 55 rfl w.heap.size 66 i0 _ 3 40 Tryz.underlying55 hi hz0 hz1 hz2 rfl (by decide) _ ps.length (cellsH ba oa l ps) rfl (HO2.out.alloc _) ⟨w2.heap.size, 0, none⟩ 1 1 [.int .i64 (sideA (l.take cnt) + xa), .int .i64 (sideB (l.take cnt) + xb), .slice (some ⟨ba, oa + fr * 2, none⟩) (to_ - fr) (to_ - fr)] rfl rfl (HNW.out _ _ _) (by simp [Value.oneCell']) (by unfold maxLen; omega) (by omega) (by simp; omega) ?_; intro v' w3 hown' hgr _)
            go_roundw
            case rel =>
              refine ⟨ps ++ [(fr, to_)], f', fr, m, rfl, rfl, by rw [HSA.out]; go_num, by rw [HSB.out]; go_num, by omega, by have := HFR.out; omega, n1, by omega, by simp; omega, ?_, ?_, ?_, ?_⟩
              · unfold Hid; rw [← HG2.out]; simp
              · have e : cellsH ba oa l (ps ++ [(fr, to_)]) = cellsH ba oa l ps ++ [.int .i64 (sideA (l.take cnt) + xa), .int .i64 (sideB (l.take cnt) + xb), .slice (some ⟨ba, oa + fr * 2, none⟩) (to_ - fr) (to_ - fr)] := by
                  simp [cellsH, HSA.out, HSB.out]
                unfold Hid
                rw [e, List.length_append]
                exact hown'
              · intro p hp
                rw [List.mem_append, List.mem_singleton] at hp
                rcases hp with hp | rfl
                · exact hps.out p hp
                · have := HTO.out; exact ⟨by simp only; omega, by simp only; omega, by omega⟩
              · exact (HBW.out.alloc hsz2 _).grown hgr (by simp; omega) (fun k e => (HO2.out.lt k e).1)
            case measure => simp [intOf]; omega
    · have hf : gatherGo l ctx f first = [] := by
        cases f with
        | zero => rfl
        | succ f => rw [gatherGo, if_neg hlt]
      have hg1 := hg.out
      rw [hf, List.append_nil] at hg1
      subst hg1
      obtain ⟨A', c', rfl, hH⟩ := hsl_of_own rfl ho.out (fun p hp => by
        have e := HBA.out (hps.out p hp).2.2
        have := (HH.out.below hb).more hb.size
        rwa [e] at this) hps.out
      have HF := Lib.hid hH
      clear ho hf hH
      go_wp2
      go_ret
      exact ⟨A', c', rfl, HF.out, hb⟩

end Go.Proofs.YtcbmkkndbeiknaaGreatDoor
