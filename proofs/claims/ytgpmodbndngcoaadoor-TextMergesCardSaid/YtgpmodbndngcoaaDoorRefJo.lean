/- Plain: edits joined one by one. The document's joined: it gives what the program's joined gives. -/
import Derived.Test.YtgpmodbndngcoaaDoorEd
import Derived.Test.YtgpmodbndngcoaaDoorSort
import Derived.Test.YtgpmodbndngcoaaDoorRefOrd
import Derived.RegionTactic

namespace Go.Proofs.YtgpmodbndngcoaaDoor
open Go.RowKit

/-- two edits at one place, as one -/
def glue (e x : Ed) : Ed := ⟨e.f, e.t, e.s ++ x.s⟩

def putJ : List Ed → Ed → List Ed
  | [], x => [x]
  | [e], x => if sameP e x then [glue e x] else [e, x]
  | a :: b :: l, x => a :: putJ (b :: l) x

theorem putJ_eq : ∀ (o : List Ed) (x : Ed) (h : 0 < o.length), putJ o x = if sameP (o[o.length - 1]'(by omega)) x then o.set (o.length - 1) (glue (o[o.length - 1]'(by omega)) x) else o ++ [x]
  | [e], x, _ => by simp [putJ]
  | a :: b :: l, x, _ => by
    have ih := putJ_eq (b :: l) x (by simp)
    have e1 : (a :: b :: l).length - 1 = (b :: l).length - 1 + 1 := by simp
    simp only [putJ, ih, e1, List.getElem_cons_succ, List.set_cons_succ, List.cons_append]
    split <;> rfl

theorem toL_append (a b : ByteArray) : (a ++ b).data.toList = a.data.toList ++ b.data.toList := by simp [ByteArray.data_append]

theorem mkB (x : Ed) : (⟨x.f, x.t, ⟨(textsL [x]).toArray⟩⟩ : Ed) = x := Ed.ext' rfl rfl (ba_ext (by simp [textsL]))

theorem tw_snoc_all (p : Ed → Bool) (x : Ed) : ∀ r : List Ed, r.dropWhile p = [] → (r ++ [x]).takeWhile p = r ++ (if p x then [x] else []) ∧ (r ++ [x]).dropWhile p = if p x then [] else [x]
  | [], _ => by
    by_cases g : p x = true
    · simp [g]
    · simp [g]
  | y :: r, h => by
    rw [List.dropWhile_cons] at h
    by_cases g : p y = true
    · rw [if_pos g] at h
      obtain ⟨a, b⟩ := tw_snoc_all p x r h
      rw [List.cons_append, List.takeWhile_cons, if_pos g, List.dropWhile_cons, if_pos g, a, b]
      exact ⟨rfl, rfl⟩
    · rw [if_neg g] at h; cases h

theorem tw_snoc_some (p : Ed → Bool) (x : Ed) : ∀ r : List Ed, r.dropWhile p ≠ [] → (r ++ [x]).takeWhile p = r.takeWhile p ∧ (r ++ [x]).dropWhile p = r.dropWhile p ++ [x]
  | [], h => by simp at h
  | y :: r, h => by
    rw [List.dropWhile_cons] at h
    by_cases g : p y = true
    · rw [if_pos g] at h
      obtain ⟨a, b⟩ := tw_snoc_some p x r h
      rw [List.cons_append, List.takeWhile_cons, if_pos g, List.dropWhile_cons, if_pos g, a, b, List.takeWhile_cons, if_pos g, List.dropWhile_cons, if_pos g]
      exact ⟨rfl, rfl⟩
    · rw [List.cons_append, List.takeWhile_cons, if_neg g, List.dropWhile_cons, if_neg g, List.takeWhile_cons, if_neg g, List.dropWhile_cons, if_neg g]
      exact ⟨rfl, rfl⟩

theorem joinF_ne {l : List Ed} (h : l ≠ []) : joinF l ≠ [] := by
  cases l with
  | nil => exact absurd rfl h
  | cons x l => rw [joinF_cons]; simp

theorem putJ_cons (a : Ed) {l : List Ed} (h : l ≠ []) (x : Ed) : putJ (a :: l) x = a :: putJ l x := by
  cases l with
  | nil => exact absurd rfl h
  | cons b l => rfl

theorem tw_all (p : Ed → Bool) (r : List Ed) (h : r.dropWhile p = []) : r.takeWhile p = r := by
  have := List.takeWhile_append_dropWhile (p := p) (l := r)
  rwa [h, List.append_nil] at this

theorem joinF_snoc : ∀ (n : Nat) (p : List Ed) (x : Ed), p.length ≤ n → joinF (p ++ [x]) = putJ (joinF p) x
  | _, [], x, _ => by
    rw [List.nil_append, joinF_cons, joinF_nil, putJ]
    simp only [List.takeWhile_nil, List.dropWhile_nil, joinF_nil]
    rw [mkB]
  | 0, h :: r, _, hl => by simp at hl
  | n + 1, h :: r, x, hl => by
    simp only [List.length_cons] at hl
    rw [List.cons_append, joinF_cons, joinF_cons]
    by_cases g : r.dropWhile (sameP h) = []
    · obtain ⟨a, b⟩ := tw_snoc_all (sameP h) x r g
      rw [a, b, g, joinF_nil, tw_all _ _ g, putJ]
      have hs : sameP ⟨h.f, h.t, ⟨(textsL (h :: r)).toArray⟩⟩ x = sameP h x := rfl
      rw [hs]
      by_cases k : sameP h x = true
      · rw [if_pos k, if_pos k, if_pos k, joinF_nil]
        congr 1
        refine Ed.ext' rfl rfl (ba_ext ?_)
        show (textsL (h :: (r ++ [x]))).toArray.toList = ((ByteArray.mk (textsL (h :: r)).toArray) ++ x.s).data.toList
        rw [toL_append, ← List.cons_append, textsL_append]
        simp [textsL]
      · rw [if_neg k, if_neg k, if_neg k, List.append_nil, joinF_cons]
        simp only [List.takeWhile_nil, List.dropWhile_nil, joinF_nil]
        rw [mkB]
    · obtain ⟨a, b⟩ := tw_snoc_some (sameP h) x r g
      have hd := drop_le h r
      rw [a, b, joinF_snoc n _ x (by omega), putJ_cons _ (joinF_ne g)]

end Go.Proofs.YtgpmodbndngcoaaDoor

namespace Go.Proofs.YtgpmodbndngcoaaDoor
open Go.RowKit Go.Maps Go.Sort

/-- a text stored into the edit at place i -/
theorem EB.text {w : World} {g : Nat} {l : List Ed} (h : EB w g l) (i : Nat) (hi : i < l.length) (s : ByteArray) : EB (w.setCell ⟨g, i * 3 + 2, none⟩ (.string s)) g (l.set i ⟨l[i].f, l[i].t, s⟩) := by
  obtain ⟨cur, hg, hs, ht⟩ := h
  obtain ⟨cur', a, b, c, d⟩ := blk_setCells [.string s] w (i * 3 + 2) cur hg
  have hsz : i * 3 + 3 ≤ cur.size := by omega
  refine ⟨cur', a, by rw [b]; simpa using hs, ?_⟩
  apply List.ext_getElem?
  intro j
  rw [List.getElem?_take]
  simp only [List.length_set]
  by_cases hj : j < l.length * 3
  · rw [if_pos hj, Array.getElem?_toList]
    have e0 : (cellsE l)[j]? = cur[j]? := by rw [← ht, List.getElem?_take, if_pos hj, Array.getElem?_toList]
    have f1 := flat_get l.toArray j (by simpa using hj)
    have f2 := flat_get (l.set i ⟨l[i].f, l[i].t, s⟩).toArray j (by simpa using hj)
    rw [f2]
    by_cases hji : j / 3 = i
    · have e3 : ((l.set i ⟨l[i].f, l[i].t, s⟩).toArray)[j / 3]! = ⟨l[i].f, l[i].t, s⟩ := by rw [getElem!_pos _ _ (by simp; omega)]; simp [hji]
      have e4 : (l.toArray)[j / 3]! = l[i] := by rw [getElem!_pos _ _ (by simp; omega)]; simp [hji]
      rw [e3]
      by_cases h2 : j = i * 3 + 2
      · have := d 0 (by simp) (by omega)
        rw [Nat.add_zero, ← h2] at this
        rw [this, show j % 3 = 2 by omega]
        rfl
      · rw [c j (by simp only [List.length_cons, List.length_nil]; omega), ← e0, f1, e4]
        rcases (by omega : j % 3 = 0 ∨ j % 3 = 1) with e | e
        · rw [e]; rfl
        · rw [e]; rfl
    · rw [c j (by simp only [List.length_cons, List.length_nil]; omega), ← e0, f1]
      have e3 : ((l.set i ⟨l[i].f, l[i].t, s⟩).toArray)[j / 3]! = (l.toArray)[j / 3]! := by
        rw [getElem!_pos _ _ (by simp; omega), getElem!_pos _ _ (by simp; omega)]
        simp [Ne.symm hji]
      rw [e3]
  · rw [if_neg hj, List.getElem?_eq_none (by rw [cellsE_length, List.length_set]; omega)]

theorem joinF_texts : ∀ (n : Nat) (l : List Ed), l.length ≤ n → textsL (joinF l) = textsL l
  | _, [], _ => by rw [joinF_nil]
  | 0, x :: l, h => by simp at h
  | n + 1, x :: l, h => by
    have hd := drop_le x l
    simp only [List.length_cons] at h
    rw [joinF_cons, textsL_cons, joinF_texts n _ (by omega)]
    show textsL (x :: l.takeWhile (sameP x)) ++ textsL (l.dropWhile (sameP x)) = _
    rw [← textsL_append, List.cons_append, List.takeWhile_append_dropWhile]

theorem texts_mem {l : List Ed} {x : Ed} (h : x ∈ l) : x.s.size ≤ (textsL l).length := by
  induction l with
  | nil => simp at h
  | cons y l ih =>
    rw [textsL_cons, List.length_append]
    rcases List.mem_cons.1 h with rfl | h
    · simp
    · have := ih h; omega

set_option maxHeartbeats 4000000 in
set_option maxRecDepth 100000 in
theorem refJoined_any (A : Option Addr) (c : Nat) (l : List Ed) (w : World) (hl : l.length ≤ 100000) (hT : (textsL l).length ≤ 140737488355328) (h : ESl w w.heap.size A l) :
    Calls Tryd.prog 63 #[.slice A l.length c] w fun e w' => ∃ v', e = .returned v' ∧ w'.ownsRow w.heap.size 46 3 v' (joinF l).length (cellsE (joinF l)) ∧ Below w.heap.size w w' := by
  obtain ⟨i0, hi, hz0, hz1, hz2⟩ := info_parts infoEd
  have HH := Lib.hid h
  clear h
  go_enter Tryd.func63, Tryd.ntmps63
  go_wp2
  go_loopw [3, 4] (fun vo vi wr => ∃ k : Nat, k ≤ l.length ∧ vi = .int .i64 k ∧ Hid (wr.ownsRow w.heap.size 46 3 vo (joinF (l.take k)).length (cellsE (joinF (l.take k)))) ∧ Hid (Below w.heap.size w wr)) (fun _ i _ => l.length - (intOf i).toNat)
  case atStart => exact ⟨0, Nat.zero_le _, rfl, by have e : joinF (l.take 0) = [] := by rw [List.take_zero, joinF_nil]
                                                   rw [e]; exact World.ownsRow_nil _ _ _ _, Below.refl _ _⟩
  case round =>
    obtain ⟨k, hk, rfl, hO, hb⟩ := hrel
    by_cases hlt : k < l.length
    · obtain ⟨b, off, rfl, hB, c0, c1, c2⟩ := (HH.out.below hb.out).at_ k hlt
      have hsn : joinF (l.take (k + 1)) = putJ (joinF (l.take k)) l[k] := by rw [List.take_succ_eq_append_getElem hlt]; exact joinF_snoc _ _ _ (Nat.le_refl _)
      have hol : (joinF (l.take k)).length ≤ l.length := by have := joinF_length _ (l.take k) (Nat.le_refl _); rw [List.length_take] at this; omega
      have htx1 : ∀ e ∈ joinF (l.take k), e.s.size ≤ 140737488355328 := fun e he => by
        have h1 := texts_mem he
        rw [joinF_texts _ _ (Nat.le_refl _)] at h1
        have h2 := textsL_take_le l k
        omega
      have htx2 : l[k].s.size ≤ 140737488355328 := by
        have := texts_mem (List.getElem_mem hlt)
        omega
      generalize joinF (l.take k) = o at *
      generalize l[k] = x at *
      have HTX1 := Lib.hid htx1
      clear htx1
      have HSN := Lib.hid hsn
      have hbs := hb.out.size
      have i3 : (0 : Int) ≤ (k : Int) := by omega
      have i4 : (k : Int) < (l.length : Int) := by omega
      clear hsn
      have hnw : ∀ W : World, ∀ j u, (#[Value.int .i64 x.f, .int .i64 x.t, .string x.s] : Array Value).toList[j]? = some u → (W.alloc (.cells #[.int .i64 x.f, .int .i64 x.t, .string x.s] 46)).cell? ((⟨W.heap.size, 0, none⟩ : Addr).add j) = some u :=
        fun W => World.news_of_block (t := 46) (fr := (0, 0)) (heap_alloc_new W _)
      have HNW := Lib.hid hnw
      clear hnw
      by_cases ho0 : o = []
      · subst ho0
        obtain ⟨A3, c3, rfl, hA3, h31, h32, hE3⟩ := IsE.of_own rfl hO.out
        have hp : putJ [] x = [x] := rfl
        have HP := Lib.hid (HSN.out.trans hp)
        have m1 : decide ((0 : Int) ≤ -1) = false := by decide
        simp only [List.length_nil] at *
        clear hA3 hE3 HSN hp
        go_wp2
        go_quiet (fail)
        have hq := below_drawn (Below.refl wr.heap.size wr) nq
        have d0 := below_cells' hq c0
        have d1 := below_cells' hq c1
        have d2 := below_cells' hq c2
        have HO2 := Lib.hid (own_below hO.out hq)
        have HB2 := Lib.hid (hb.out.trans (hq.mono hbs))
        generalize wr.drewN nq = w2 at *
        have hbs2 := HB2.out.size
        clear hq c0 c1 c2 hO hb hbs
        go_wp2_with (at_builtin; refine wpList_append_own _ rfl (.tmp 71) (.tmp 76) 30 rfl w.heap.size 46 i0 _ 3 32 Tryd.underlying30 hi hz0 hz1 hz2 rfl (by decide) _ 0 (cellsE []) rfl (HO2.out.alloc _) ⟨w2.heap.size, 0, none⟩ 1 1 [.int .i64 x.f, .int .i64 x.t, .string x.s] rfl rfl (HNW.out _) (by simp [Value.oneCell']) (by unfold maxLen; omega) (by omega) (by simp; omega) ?_; intro v' w5 hown' hgr _)
        have HB5 := Lib.hid ((HB2.out.alloc hbs2 _).grown hgr (by simp; omega) (fun k e => (HO2.out.lt k e).1))
        have HO5 := Lib.hid hown'
        clear hown' hgr HO2 HB2
        go_wp2
        go_roundw
        case rel =>
          refine ⟨k + 1, by omega, by go_num, ?_, HB5.out⟩
          unfold Hid
          rw [HP.out]
          exact HO5.out
        case measure => simp [intOf]; omega
      · obtain ⟨n, hn⟩ : ∃ n, o.length = n + 1 := ⟨o.length - 1, by
          have : o.length ≠ 0 := fun e => ho0 (List.eq_nil_of_length_eq_zero e)
          omega⟩
        have hpe := putJ_eq o x (by omega)
        obtain ⟨g, cap, rfl, hgb, hglt⟩ := hO.out.form (by omega)
        obtain ⟨hEB, _, hcap1, hcap2⟩ := EB.of_own hO.out
        have hSZ := sz_of_own hO.out
        obtain ⟨y0, y1, y2⟩ := hEB.at_ n (by omega)
        have hn1 : o.length - 1 = n := by omega
        simp only [hn1] at hpe
        have hsp := @sameP_iff (o[n]'(by omega)) x
        have htx := hEB.text n (by omega) ((o[n]'(by omega)).s ++ x.s)
        rw [show (⟨(o[n]'(by omega)).f, (o[n]'(by omega)).t, (o[n]'(by omega)).s ++ x.s⟩ : Ed) = glue (o[n]'(by omega)) x from rfl] at htx
        have hte := HTX1.out _ (List.getElem_mem (show n < o.length by omega))
        generalize o[n]'(by omega) = e at *
        have hbnd : ¬ 9223372036854775807 < e.s.size + x.s.size := by omega
        have hbnd2 : e.s.size + x.s.size ≤ 9223372036854775807 := by omega
        generalize hN : o.length = N at *
        subst hn
        have HN := Lib.hid hN
        have b2 : (n : Int) < (n : Int) + 1 := by omega
        have b5 : decide ((0 : Int) ≤ (n : Int)) = true := by simp
        have hcap3 : n + 1 ≤ cap := hcap1
        clear hN hn1 hcap1
        by_cases hq0 : sameP e x = true
        · rw [if_pos hq0] at hpe
          obtain ⟨q1, q2, q3⟩ := hsp.1 hq0
          have r1 : (x.f == x.t) = true := by simp; omega
          have r2 : (e.f == x.f) = true := by simp; omega
          have r3 : (e.t == x.f) = true := by simp; omega
          have HP := Lib.hid (HSN.out.trans hpe)
          have HTX := Lib.hid htx
          have HSZ := Lib.hid (hSZ.store (n * 3 + 2) [.string (e.s ++ x.s)])
          have f2 := hEB.frozen (n * 3 + 2)
          have HLN := Lib.hid (show (o.set n (glue e x)).length = n + 1 by rw [List.length_set, HN.out])
          have hcapn : n + 1 ≤ cap := hcap3
          clear hpe hq0 q1 q2 q3 hsp htx hSZ hEB HSN hO
          go_wp2
          go_quiet (fail)
          go_wp2_with fail
          go_region
          go_wp2
          go_roundw
          case rel =>
            refine ⟨k + 1, by omega, by go_num, ?_, ?_⟩
            · have hw := own_of_eb (w := wr.setCell ⟨g, n * 3 + 2, none⟩ (.string (e.s ++ x.s))) (base := w.heap.size) HTX.out HSZ.out hgb (by rw [HLN.out]; exact hcapn) hcap2
              unfold Hid
              rw [HP.out]
              obtain ⟨p1, p2⟩ := hw
              rw [HLN.out] at p1 p2 ⊢
              exact ⟨p1, p2⟩
            · have hs := hb.out.setCell (p := ⟨g, n * 3 + 2, none⟩) hgb (.string (e.s ++ x.s))
              exact ⟨hs.os, hs.tape, hs.output, hs.size, hs.block⟩
          case measure => simp [intOf]; omega
        · rw [if_neg hq0] at hpe
          have HP := Lib.hid (HSN.out.trans hpe)
          have hq1 : ¬ (e.f = e.t ∧ x.f = e.f ∧ x.t = e.t) := fun g => hq0 (hsp.2 g)
          clear hpe hq0 hsp htx hSZ hEB HSN
          by_cases q1 : x.f = x.t
          · have r1 : (x.f == x.t) = true := by simp [q1]
            by_cases q2 : e.f = x.f
            · have r2 : (e.f == x.f) = true := by simp [q2]
              have r3 : (e.t == x.f) = false := by simp; omega
              clear q1 q2 hq1
              go_wp2
              go_quiet (fail)
              have hq := below_drawn (Below.refl wr.heap.size wr) nq
              have d0 := below_cells' hq c0
              have d1 := below_cells' hq c1
              have d2 := below_cells' hq c2
              have HO2 := Lib.hid (own_below hO.out hq)
              have HB2 := Lib.hid (hb.out.trans (hq.mono hbs))
              generalize wr.drewN nq = w2 at *
              have hbs2 := HB2.out.size
              clear hq c0 c1 c2 hO hb hbs y0 y1 y2
              go_wp2_with (at_builtin; refine wpList_append_own _ rfl (.tmp 71) (.tmp 76) 30 rfl w.heap.size 46 i0 _ 3 32 Tryd.underlying30 hi hz0 hz1 hz2 rfl (by decide) _ (n + 1) (cellsE o) rfl (HO2.out.alloc _) ⟨w2.heap.size, 0, none⟩ 1 1 [.int .i64 x.f, .int .i64 x.t, .string x.s] rfl rfl (HNW.out _) (by simp [Value.oneCell']) (by unfold maxLen; omega) (by omega) (by simp; omega) ?_; intro v' w5 hown' hgr _)
              have HB5 := Lib.hid ((HB2.out.alloc hbs2 _).grown hgr (by simp; omega) (fun k e => (HO2.out.lt k e).1))
              have HO5 := Lib.hid hown'
              clear hown' hgr HO2 HB2
              go_wp2
              go_roundw
              case rel =>
                refine ⟨k + 1, by omega, by go_num, ?_, HB5.out⟩
                have e1 : cellsE (o ++ [x]) = cellsE o ++ [.int .i64 x.f, .int .i64 x.t, .string x.s] := by rw [cellsE_append]; rfl
                unfold Hid
                rw [HP.out, e1, List.length_append, HN.out]
                exact HO5.out
              case measure => simp [intOf]; omega
            · have r2 : (e.f == x.f) = false := by simp; omega
              clear q1 q2 hq1
              go_wp2
              go_quiet (fail)
              have hq := below_drawn (Below.refl wr.heap.size wr) nq
              have d0 := below_cells' hq c0
              have d1 := below_cells' hq c1
              have d2 := below_cells' hq c2
              have HO2 := Lib.hid (own_below hO.out hq)
              have HB2 := Lib.hid (hb.out.trans (hq.mono hbs))
              generalize wr.drewN nq = w2 at *
              have hbs2 := HB2.out.size
              clear hq c0 c1 c2 hO hb hbs y0 y1 y2
              go_wp2_with (at_builtin; refine wpList_append_own _ rfl (.tmp 71) (.tmp 76) 30 rfl w.heap.size 46 i0 _ 3 32 Tryd.underlying30 hi hz0 hz1 hz2 rfl (by decide) _ (n + 1) (cellsE o) rfl (HO2.out.alloc _) ⟨w2.heap.size, 0, none⟩ 1 1 [.int .i64 x.f, .int .i64 x.t, .string x.s] rfl rfl (HNW.out _) (by simp [Value.oneCell']) (by unfold maxLen; omega) (by omega) (by simp; omega) ?_; intro v' w5 hown' hgr _)
              have HB5 := Lib.hid ((HB2.out.alloc hbs2 _).grown hgr (by simp; omega) (fun k e => (HO2.out.lt k e).1))
              have HO5 := Lib.hid hown'
              clear hown' hgr HO2 HB2
              go_wp2
              go_roundw
              case rel =>
                refine ⟨k + 1, by omega, by go_num, ?_, HB5.out⟩
                have e1 : cellsE (o ++ [x]) = cellsE o ++ [.int .i64 x.f, .int .i64 x.t, .string x.s] := by rw [cellsE_append]; rfl
                unfold Hid
                rw [HP.out, e1, List.length_append, HN.out]
                exact HO5.out
              case measure => simp [intOf]; omega
          · have r1 : (x.f == x.t) = false := by simp; omega
            clear q1 hq1
            go_wp2
            go_quiet (fail)
            have hq := below_drawn (Below.refl wr.heap.size wr) nq
            have d0 := below_cells' hq c0
            have d1 := below_cells' hq c1
            have d2 := below_cells' hq c2
            have HO2 := Lib.hid (own_below hO.out hq)
            have HB2 := Lib.hid (hb.out.trans (hq.mono hbs))
            generalize wr.drewN nq = w2 at *
            have hbs2 := HB2.out.size
            clear hq c0 c1 c2 hO hb hbs y0 y1 y2
            go_wp2_with (at_builtin; refine wpList_append_own _ rfl (.tmp 71) (.tmp 76) 30 rfl w.heap.size 46 i0 _ 3 32 Tryd.underlying30 hi hz0 hz1 hz2 rfl (by decide) _ (n + 1) (cellsE o) rfl (HO2.out.alloc _) ⟨w2.heap.size, 0, none⟩ 1 1 [.int .i64 x.f, .int .i64 x.t, .string x.s] rfl rfl (HNW.out _) (by simp [Value.oneCell']) (by unfold maxLen; omega) (by omega) (by simp; omega) ?_; intro v' w5 hown' hgr _)
            have HB5 := Lib.hid ((HB2.out.alloc hbs2 _).grown hgr (by simp; omega) (fun k e => (HO2.out.lt k e).1))
            have HO5 := Lib.hid hown'
            clear hown' hgr HO2 HB2
            go_wp2
            go_roundw
            case rel =>
              refine ⟨k + 1, by omega, by go_num, ?_, HB5.out⟩
              have e1 : cellsE (o ++ [x]) = cellsE o ++ [.int .i64 x.f, .int .i64 x.t, .string x.s] := by rw [cellsE_append]; rfl
              unfold Hid
              rw [HP.out, e1, List.length_append, HN.out]
              exact HO5.out
            case measure => simp [intOf]; omega
    · obtain rfl : k = l.length := by omega
      rw [List.take_length] at hO
      go_wp2
      go_ret
      exact ⟨_, rfl, hO.out, hb.out⟩

end Go.Proofs.YtgpmodbndngcoaaDoor
