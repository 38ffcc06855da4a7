/- LexJoins: the walk of the law. -/
import Derived.Test.YtihnafocjognaaaDoorLexW
import Derived.Test.YtihnafocjognaaaDoorLexStrip
import Derived.Test.YtihnafocjognaaaDoorLexJ
import Derived.Deep.Cut
namespace Go.Proofs.YtihnafocjognaaaDoor
open Go.RowKit Go.Maps Go.Shelf

theorem flatP_snoc (ts : List (Nat × List UInt8)) (t : Nat × List UInt8) : flatP (ts ++ [t]) = flatP ts ++ 32 :: t.2 := by
  induction ts with
  | nil => simp [flatP]
  | cons x ts ih => simp [flatP, ih]
theorem joinP_snoc (ts : List (Nat × List UInt8)) (t : Nat × List UInt8) (h : ts ≠ []) : joinP (ts ++ [t]) = joinP ts ++ 32 :: t.2 := by
  cases ts with
  | nil => exact absurd rfl h
  | cons x ts => simp [joinP, flatP_snoc]
theorem joinP_one (t : Nat × List UInt8) : joinP [t] = t.2 := by simp [joinP, flatP]
theorem joinP_ne (ts : List (Nat × List UInt8)) (h : ∀ t ∈ ts, Fit t) (e : joinP ts = []) : ts = [] := by
  cases ts with
  | nil => rfl
  | cons x ts =>
    have := (h x (by simp)).1.1
    simp only [joinP, List.append_eq_nil_iff] at e
    exact absurd e.1 this

theorem tok_xlen : ∀ (n : Nat) (f : Bool) (a : Nat) (l : List UInt8), l.length ≤ n → ∀ t ∈ tokR f a l, t.x.data.toList.length ≤ l.length
  | n, f, a, l, hn, t, ht => by
    rw [tokR_step] at ht
    by_cases g : l.length ≤ (skipF f l).1
    · rw [if_pos g] at ht
      obtain rfl : t = endTk f a l := by simpa using ht
      exact Nat.zero_le _
    · rw [if_neg g, List.mem_cons] at ht
      rcases ht with rfl | ht
      · have ex : (theTk f a l).x.data.toList = (l.drop (skipF f l).1).take (tokF (skipF f l).2 (l.drop (skipF f l).1)).2 := rfl
        rw [ex, List.length_take, List.length_drop]
        omega
      · have hl := left_less f l g
        cases n with
        | zero => omega
        | succ n => exact Nat.le_trans (tok_xlen n _ _ _ (by omega) t ht) (Nat.le_of_lt hl)
theorem tok_last : ∀ (n : Nat) (f : Bool) (a : Nat) (l : List UInt8), l.length ≤ n → ∃ t ∈ tokR f a l, t.k = 0
  | n, f, a, l, hn => by
    rw [tokR_step]
    by_cases g : l.length ≤ (skipF f l).1
    · rw [if_pos g]; exact ⟨endTk f a l, by simp, rfl⟩
    · rw [if_neg g]
      have hl := left_less f l g
      cases n with
      | zero => omega
      | succ n =>
        obtain ⟨t, ht, e⟩ := tok_last n false _ _ (Nat.le_of_lt_succ (Nat.lt_of_lt_of_le hl hn))
        exact ⟨t, List.mem_cons_of_mem _ ht, e⟩
theorem keepT_less (l : List UInt8) : (keepT (tokR true 0 l)).length < (tokR true 0 l).length := by
  obtain ⟨t, ht, e⟩ := tok_last l.length true 0 l (Nat.le_refl _)
  unfold keepT
  rw [List.length_filter_lt_length_iff_exists]
  exact ⟨t, ht, by simp [keepK, e]⟩

/-- the texts that Strip gives, by kinds and texts alone -/
theorem stripL_kx (l : List Tk) : (stripL l).map (fun b => b.data.toList) = ((l.map kx).filter (fun p => decide (p.1 ≠ 7) && decide (p.1 ≠ 0))).map Prod.snd := by
  induction l with
  | nil => rfl
  | cons t l ih =>
    have e : stripL (t :: l) = if keepK t = true then t.x :: stripL l else stripL l := by
      unfold stripL keepT
      rw [List.filter_cons]
      by_cases g : keepK t = true
      · rw [if_pos g, if_pos g, List.map_cons]
      · rw [if_neg g, if_neg g]
    rw [e, List.map_cons, List.filter_cons]
    have e2 : (decide ((kx t).1 ≠ 7) && decide ((kx t).1 ≠ 0)) = keepK t := rfl
    rw [e2]
    by_cases g : keepK t = true
    · rw [if_pos g, if_pos g, List.map_cons, List.map_cons, ih]; rfl
    · rw [if_neg g, if_neg g, ih]
theorem map_data_inj : ∀ (a b : List ByteArray), a.map (fun x => x.data.toList) = b.map (fun x => x.data.toList) → a = b
  | [], [], _ => rfl
  | [], _ :: _, h => by simp at h
  | _ :: _, [], h => by simp at h
  | x :: a, y :: b, h => by
    simp only [List.map_cons, List.cons.injEq] at h
    rw [ba_extL h.1, map_data_inj a b h.2]
theorem keepT_kx (l : List Tk) : ((l.map kx).filter (fun p => decide (p.1 ≠ 7) && decide (p.1 ≠ 0))) = (keepT l).map kx := by
  induction l with
  | nil => rfl
  | cons t l ih =>
    rw [List.map_cons, List.filter_cons, ih]
    have e2 : (decide ((kx t).1 ≠ 7) && decide ((kx t).1 ≠ 0)) = keepK t := rfl
    rw [e2]
    unfold keepT
    rw [List.filter_cons]
    by_cases g : keepK t = true
    · rw [if_pos g, if_pos g, List.map_cons]
    · rw [if_neg g, if_neg g]
/-- what the joined texts' tokens are -/
theorem joined_facts (l m : List Tk) (hm : m.map kx = (keepT l).map kx ++ [(0, [])]) : m.length = (keepT l).length + 1 ∧ stripL m = stripL l ∧ ∀ (i : Nat) (h : i < (keepT l).length) (h2 : i < m.length), m[i].k = (keepT l)[i].k := by
  have hlen := congrArg List.length hm
  rw [List.length_map, List.length_append, List.length_map] at hlen
  refine ⟨hlen, ?_, fun i h h2 => ?_⟩
  · apply map_data_inj
    rw [stripL_kx, stripL_kx, hm, keepT_kx, List.filter_append, ← keepT_kx, List.filter_filter]
    simp
  · have e : (m.map kx)[i]? = ((keepT l).map kx ++ [(0, [])])[i]? := by rw [hm]
    rw [List.getElem?_append_left (by rw [List.length_map]; exact h), List.getElem?_map, List.getElem?_map, List.getElem?_eq_getElem h2, List.getElem?_eq_getElem h] at e
    simp only [Option.map_some, Option.some.injEq] at e
    exact congrArg Prod.fst e

def bnd (k : Nat) : Nat := k * 200001
theorem bnd_succ (k : Nat) : bnd (k + 1) = bnd k + 200001 := by unfold bnd; omega
theorem bnd_le (k : Nat) (h : k ≤ 40000) : bnd k ≤ 9000000000 := by unfold bnd; omega

set_option maxHeartbeats 8000000 in
set_option maxRecDepth 100000 in
theorem lexJoins_any (n0 : Nat) (s : ByteArray) (w : World) (hs : s.size ≤ 140737488355328) (hG : LexG n0 w) :
    Calls Tryd.prog 5 #[.string s] w fun e w' => e = .returned (.bool true) ∧ Below w.heap.size w w' := by
  obtain ⟨iu, hiu, hu0, hu1, hu2⟩ := info_parts infoU8L
  obtain ⟨ii, hii, hi0, hi1, hi2⟩ := info_parts infoIntL
  have S := scan_any n0 s w hG
  have AW := fun W (h : LexG n0 W) => Lib.hid (awakeL_any n0 W h)
  have HAW := Lib.hid AW
  have HG := Lib.hid hG
  unfold scanE scanL at S
  by_cases hok : scanOk s = true
  · rw [if_pos hok, if_pos hok] at S
    have hok2 : s.size ≤ 200000 ∧ (tokR true 0 s.data.toList).length ≤ 40000 := by simpa [scanOk] using hok
    obtain ⟨hs2, hl⟩ := hok2
    have hgood := good_toks s.data.toList.length true 0 s.data.toList (Nat.le_refl _)
    have hxl := tok_xlen s.data.toList.length true 0 s.data.toList (Nat.le_refl _)
    have hless := keepT_less s.data.toList
    generalize tokR true 0 s.data.toList = l at *
    have hxl2 : ∀ t ∈ l, t.x.size ≤ 200000 := fun t ht => by have := hxl t ht; simp at this; omega
    have SC := fun (b : ByteArray) (W : World) (h : LexG n0 W) => Lib.hid (scan_any n0 b W h)
    have HSC := Lib.hid SC
    have HS := Lib.hid S
    have HGD := Lib.hid hgood
    have HXL := Lib.hid hxl2
    have HLESS := Lib.hid hless
    have HLL := Lib.hid hl
    have hlI : (l.length : Int) ≤ 40000 := by omega
    clear S AW hG hok hs hs2 hl hgood hxl hxl2 hless SC
    go_enter Tryd.func5, Tryd.ntmps5
    go_wp2_with fail
    refine HS.out.mono ?_
    rintro e w1 ⟨v, rfl, hO, hb1⟩
    obtain ⟨A0, c0, rfl⟩ := own_len hO
    have hR : TRd w1 w1.heap.size A0 l := Rd.of_own hO
    have HR := Lib.hid hR
    have HB1 := Lib.hid hb1
    clear hO hb1 hR HS
    go_wp2_with fail
    go_loopw [5, 6, 7] (fun vb vk vi wr => ∃ (k n q : Nat) (bs : List UInt8) (ks : List Nat), k ≤ l.length ∧ vi = .int .i64 k ∧ q ≤ k ∧ Hid (n ≤ bnd k) ∧ Hid (bs.length = n ∧ ks.length = q) ∧
      Hid (bs = joinP ((keepT (l.take k)).map kx)) ∧ Hid (ks = (keepT (l.take k)).map Tk.k) ∧ Hid (∀ t ∈ (keepT (l.take k)).map kx, Fit t) ∧ Hid (wr.ownsRow w1.heap.size 5 1 vb n (Lib.byteCells bs)) ∧
      Hid (wr.ownsRow w1.heap.size 3 1 vk q (ks.map fun x => Value.int .i64 (x : Nat))) ∧ Below w1.heap.size w1 wr ∧ Hid ((∃ A c, vb = .slice A n c) ∧ (∃ A c, vk = .slice A q c))) (fun _ _ vi _ => l.length - (intOf vi).toNat)
    case atStart => exact ⟨0, 0, 0, [], [], Nat.zero_le _, rfl, Nat.le_refl _, Nat.zero_le _, ⟨rfl, rfl⟩, rfl, rfl, fun t ht => by simp [keepT] at ht, World.ownsRow_nil _ _ _ _, World.ownsRow_nil _ _ _ _, Below.refl _ _, ⟨none, 0, rfl⟩, ⟨none, 0, rfl⟩⟩
    case round =>
      obtain ⟨k, n, q, bs, ks, hk, rfl, hqk, hn, hlens, hbs, hks, hfit, hOb, hOk, hB, hforms⟩ := hrel
      obtain ⟨⟨Ab, cb, rfl⟩, ⟨Ak, ck, rfl⟩⟩ := hforms.out
      clear hforms
      by_cases hlt : k < l.length
      · obtain ⟨b, off, eA, hBb, d0, d1, d2, d3⟩ := (HR.out.below hB).at_ k hlt
        cases eA
        have hst := keepT_take l k hlt
        have hgd := HGD.out l[k] (List.getElem_mem hlt)
        have hxs := HXL.out l[k] (List.getElem_mem hlt)
        have hltI : (k : Int) < l.length := by omega
        have HQK := Lib.hid hqk
        generalize l[k] = t at *
        obtain ⟨tk, tb, tx, ta⟩ := t
        simp only at d0 d1 d2 d3 hgd hxs
        have HXS := Lib.hid hxs
        have HST := Lib.hid hst
        clear hst hxs hqk d1 d3
        by_cases k8 : tk = 8
        · subst k8
          clear hgd
          go_wp2_with fail
          refine (HAW.out _ (HG.out.below (HB1.out.trans (hB.mono HB1.out.size)))).out.mono ?_
          rintro e w7 ⟨rfl, hb7⟩
          have HB7 := Lib.hid ((HB1.out.trans (hB.mono HB1.out.size)).trans (hb7.mono (HB1.out.trans (hB.mono HB1.out.size)).size))
          clear hb7
          go_wp2
          go_ret
          exact ⟨rfl, HB7.out⟩
        · by_cases k35 : tk = 6 ∧ tx = ⟨#[35]⟩
          · obtain ⟨rfl, rfl⟩ := k35
            clear hgd k8
            go_wp2_with fail
            refine (HAW.out _ (HG.out.below (HB1.out.trans (hB.mono HB1.out.size)))).out.mono ?_
            rintro e w7 ⟨rfl, hb7⟩
            have HB7 := Lib.hid ((HB1.out.trans (hB.mono HB1.out.size)).trans (hb7.mono (HB1.out.trans (hB.mono HB1.out.size)).size))
            clear hb7
            go_wp2
            go_ret
            exact ⟨rfl, HB7.out⟩
          · skip
            have n8 : ((tk : Int) == 8) = false := by simp; omega
            by_cases k7 : tk = 7
            · subst k7
              have HG7 := Lib.hid (show keepK ⟨7, tb, tx, ta⟩ = false by simp [keepK])
              clear hgd k8 k35
              have HNX : Hid (n ≤ bnd (k + 1)) := by have h1 := hn.out; have h3 := bnd_succ k; exact (by omega : n ≤ bnd (k + 1))
              go_wp2
              go_roundw
              case rel =>
                have h := HST.out
                rw [if_neg (by rw [HG7.out]; decide)] at h
                exact ⟨k + 1, n, q, bs, ks, by omega, by go_num, by have := HQK.out; omega, HNX.out, hlens.out, by unfold Hid; rw [h]; exact hbs.out, by unfold Hid; rw [h]; exact hks.out, by unfold Hid; rw [h]; exact hfit.out, hOb.out, hOk.out, hB, ⟨Ab, cb, rfl⟩, ⟨Ak, ck, rfl⟩⟩
              case measure => simp [intOf]; omega
            · by_cases k0 : tk = 0
              · subst k0
                have HG7 := Lib.hid (show keepK ⟨0, tb, tx, ta⟩ = false by simp [keepK])
                clear hgd k8 k35 k7
                have HNX : Hid (n ≤ bnd (k + 1)) := by have h1 := hn.out; have h3 := bnd_succ k; exact (by omega : n ≤ bnd (k + 1))
                go_wp2
                go_roundw
                case rel =>
                  have h := HST.out
                  rw [if_neg (by rw [HG7.out]; decide)] at h
                  exact ⟨k + 1, n, q, bs, ks, by omega, by go_num, by have := HQK.out; omega, HNX.out, hlens.out, by unfold Hid; rw [h]; exact hbs.out, by unfold Hid; rw [h]; exact hks.out, by unfold Hid; rw [h]; exact hfit.out, hOb.out, hOk.out, hB, ⟨Ab, cb, rfl⟩, ⟨Ak, ck, rfl⟩⟩
                case measure => simp [intOf]; omega
              · have hfit2 : Fit (kx ⟨tk, tb, tx, ta⟩) := by
                  rcases hgd with h | h
                  · exact absurd h.1 k0
                  · exact ⟨h.2.2, k7, k8, fun g => k35 ⟨g.1, ba_extL g.2⟩⟩
                have HFIT := Lib.hid hfit2
                clear hgd hfit2
                by_cases k6 : tk = 6
                · subst k6
                  have hnx : ¬ tx = ⟨#[35]⟩ := fun g => k35 ⟨rfl, g⟩
                  have hxb : (tx.toList == ByteArray.toList ⟨#[35]⟩) = false := by
                    have := @strB tx ⟨#[35]⟩
                    rw [decide_eq_false hnx] at this
                    exact this
                  have hxc : (tx.toList == [35]) = false := by
                    rw [ByteArray.toList_eq ⟨#[35]⟩] at hxb
                    exact hxb
                  clear hnx k8 k35 k7 k0
                  by_cases hn0 : n = 0
                  · have hnp : ¬ (0 : Int) < n := by omega
                    have HN0 := Lib.hid hn0
                    have hfk : keepK ⟨6, tb, tx, ta⟩ = true := by simp [keepK]
                    have HFK := Lib.hid hfk
                    have E0 := Lib.hid ((hB.cell (p := ⟨b, off + k * 4, none⟩) hBb).symm.trans d0)
                    have E2 := Lib.hid ((hB.cell (p := ⟨b, off + k * 4 + 2, none⟩) hBb).symm.trans d2)
                    have HOb := Lib.hid hOb.out
                    have HOk := Lib.hid hOk.out
                    have HBS := Lib.hid hbs.out
                    have HKS := Lib.hid hks.out
                    have HFT := Lib.hid hfit.out
                    have HLN := Lib.hid hlens.out
                    have HNN := Lib.hid hn.out
                    have hszz := hB.size
                    have HNX : Hid (n + tx.size ≤ bnd (k + 1)) := by have h1 := HNN.out; have h2 := HXS.out; have h3 := bnd_succ k; exact (by omega : n + tx.size ≤ bnd (k + 1))
                    have HNB : Hid (n ≤ 10000000000) := by have h1 := HNN.out; have h2 := bnd_le k (by omega); exact (by omega : n ≤ 10000000000)
                    have HM3 : Hid (n + tx.size ≤ maxLen) := by unfold Hid maxLen; have := HNB.out; have := HXS.out; omega
                    have HM4 : Hid (n + tx.size ≤ 140737488355328) := by unfold Hid; have := HNB.out; have := HXS.out; omega
                    have HB2 := Lib.hid hB
                    have hz2 := HB2.out.size
                    clear hfk hOb hOk hbs hks hfit hlens hn hn0
                    go_upto_region 15 with (at_builtin; go_loud (refine Lib.wpList_append_own_string _ rfl (.tmp 68) (.tmp 73) 37 9 rfl w1.heap.size 5 iu Tryd.underlying37 Tryd.underlying9 hiu hu0 hu1 hu2 _ n (Lib.byteCells bs) rfl HOb.out tx rfl HM3.out HM4.out (by omega) ?_); intro v3 w3 ho3 hg3 _; obtain ⟨A3, c3, rfl⟩ := own_len ho3; have HO3 := Lib.hid ho3; have HK3 := Lib.hid (own_apartL HOk.out HOb.out (by decide) hg3); have HB3 := Lib.hid (HB2.out.grown hg3 (by omega) (fun k e => (HOb.out.lt k e).1)); clear ho3 hg3)
                    have hz3 := HB3.out.size
                    have d0' := (HB3.out.cell (p := ⟨b, off + k * 4, none⟩) hBb).trans E0.out
                    have hnw2 : ∀ j u, (#[.int .i64 6] : Array Value).toList[j]? = some u → (w3.alloc (.cells #[.int .i64 6] 3)).cell? ((⟨w3.heap.size, 0, none⟩ : Addr).add j) = some u := Blk.news (Blk.new w3 3 #[.int .i64 6])
                    have HNW2 := Lib.hid hnw2
                    have HM5 : Hid (q + 1 ≤ maxLen) := by unfold Hid maxLen; have := HQK.out; omega
                    have HM6 : Hid ((q + 1) * 8 ≤ 140737488355328) := by unfold Hid; have := HQK.out; omega
                    clear hnw2
                    go_wp2_with (at_builtin; refine wpList_append_own _ rfl (.tmp 75) (.tmp 81) 38 rfl w1.heap.size 3 ii _ 1 8 Tryd.underlying38 hii hi0 hi1 hi2 rfl (by decide) _ q (ks.map fun x => Value.int .i64 (x : Nat)) rfl (HK3.out.alloc _) ⟨w3.heap.size, 0, none⟩ 1 1 [.int .i64 6] rfl rfl HNW2.out (by simp [Value.oneCell']) HM5.out HM6.out (by simp; omega) ?_; intro v4 w4 ho4 hg4 _; obtain ⟨A4, c4, rfl⟩ := own_len ho4; have HO4 := Lib.hid ho4; have HK4 := Lib.hid (own_apartL (HO3.out.alloc _) (HK3.out.alloc _) (by decide) hg4); have HB4 := Lib.hid ((HB3.out.alloc HB3.out.size _).grown hg4 (by simp; omega) (fun k e => (HK3.out.lt k e).1)); clear ho4 hg4)
                    go_wp2
                    go_roundw
                    case rel =>
                      refine ⟨k + 1, n + tx.size, q + 1, bs ++ tx.data.toList, ks ++ [6], by omega, by go_num, by have := HQK.out; omega, HNX.out, ?_, ?_, ?_, ?_, ?_, ?_, HB4.out, ⟨_, _, rfl⟩, ⟨_, _, rfl⟩⟩
                      · unfold Hid; rw [List.length_append, HLN.out.1, List.length_append, HLN.out.2]; simp
                      · have h0 : bs = [] := List.eq_nil_of_length_eq_zero (by have := HLN.out.1; have := HN0.out; omega)
                        have hne : (keepT (l.take k)).map kx = [] := joinP_ne _ HFT.out (by rw [← HBS.out]; exact h0)
                        have h := HST.out; rw [if_pos HFK.out] at h; unfold Hid; rw [h, List.map_append, hne, h0]; simp [joinP, flatP, kx]
                      · have h := HST.out; rw [if_pos HFK.out] at h; unfold Hid; rw [h, List.map_append, HKS.out]; rfl
                      · have h := HST.out; rw [if_pos HFK.out] at h; unfold Hid; rw [h]; intro p hp; rw [List.map_append, List.mem_append] at hp; exact hp.elim (fun hp => HFT.out p hp) (fun hp => by rw [show p = kx ⟨6, tb, tx, ta⟩ by simpa using hp]; exact HFIT.out)
                      · have h := HK4.out; rw [strCells_bytesL, ← byteCells_appendL] at h; exact h
                      · unfold Hid; rw [List.map_append]; exact HO4.out
                    case measure => simp [intOf]; omega
                  · have hnp : (0 : Int) < n := by omega
                    have hfk : keepK ⟨6, tb, tx, ta⟩ = true := by simp [keepK]
                    have HFK := Lib.hid hfk
                    have E0 := Lib.hid ((hB.cell (p := ⟨b, off + k * 4, none⟩) hBb).symm.trans d0)
                    have E2 := Lib.hid ((hB.cell (p := ⟨b, off + k * 4 + 2, none⟩) hBb).symm.trans d2)
                    have HOb := Lib.hid hOb.out
                    have HOk := Lib.hid hOk.out
                    have HBS := Lib.hid hbs.out
                    have HKS := Lib.hid hks.out
                    have HFT := Lib.hid hfit.out
                    have HLN := Lib.hid hlens.out
                    have HNN := Lib.hid hn.out
                    have hszz := hB.size
                    have HNX : Hid (n + 1 + tx.size ≤ bnd (k + 1)) := by have h1 := HNN.out; have h2 := HXS.out; have h3 := bnd_succ k; exact (by omega : n + 1 + tx.size ≤ bnd (k + 1))
                    have HNB : Hid (n ≤ 10000000000) := by have h1 := HNN.out; have h2 := bnd_le k (by omega); exact (by omega : n ≤ 10000000000)
                    have hnw : ∀ j u, (#[.int .u8 32] : Array Value).toList[j]? = some u → (wr.alloc (.cells #[.int .u8 32] 5)).cell? ((⟨wr.heap.size, 0, none⟩ : Addr).add j) = some u := Blk.news (Blk.new wr 5 #[.int .u8 32])
                    have HNW := Lib.hid hnw
                    have HM1 : Hid (n + 1 ≤ maxLen) := by unfold Hid maxLen; have := HNB.out; omega
                    have HM2 : Hid ((n + 1) * 1 ≤ 140737488355328) := by unfold Hid; have := HNB.out; omega
                    clear hnw hfk hOb hOk hbs hks hfit hlens hn hn0
                    go_upto_region 14 with (at_builtin; refine wpList_append_own _ rfl (.tmp 65) (.tmp 66) 37 rfl w1.heap.size 5 iu _ 1 1 Tryd.underlying37 hiu hu0 hu1 hu2 rfl (by decide) _ n (Lib.byteCells bs) rfl (HOb.out.alloc _) ⟨wr.heap.size, 0, none⟩ 1 1 [.int .u8 32] rfl rfl HNW.out (by simp [Value.oneCell']) HM1.out HM2.out (by simp; omega) ?_; intro v2 w2 ho2 hg2 _; obtain ⟨A2, c2, rfl⟩ := own_len ho2; have HO2 := Lib.hid ho2; have HK2 := Lib.hid (own_apartL (HOk.out.alloc _) (HOb.out.alloc _) (by decide) hg2); have HB2 := Lib.hid ((hB.alloc hB.size _).grown hg2 (by simp; omega) (fun k e => (HOb.out.lt k e).1)); clear ho2 hg2)
                    have hz2 := HB2.out.size
                    have d2' := (HB2.out.cell (p := ⟨b, off + k * 4 + 2, none⟩) hBb).trans E2.out
                    have HM3 : Hid (n + 1 + tx.size ≤ maxLen) := by unfold Hid maxLen; have := HNB.out; have := HXS.out; omega
                    have HM4 : Hid (n + 1 + tx.size ≤ 140737488355328) := by unfold Hid; have := HNB.out; have := HXS.out; omega
                    go_upto_region 15 with (at_builtin; go_loud (refine Lib.wpList_append_own_string _ rfl (.tmp 68) (.tmp 73) 37 9 rfl w1.heap.size 5 iu Tryd.underlying37 Tryd.underlying9 hiu hu0 hu1 hu2 _ (n + 1) (Lib.byteCells bs ++ [Value.int .u8 32]) rfl HO2.out tx rfl HM3.out HM4.out (by omega) ?_); intro v3 w3 ho3 hg3 _; obtain ⟨A3, c3, rfl⟩ := own_len ho3; have HO3 := Lib.hid ho3; have HK3 := Lib.hid (own_apartL HK2.out HO2.out (by decide) hg3); have HB3 := Lib.hid (HB2.out.grown hg3 (by omega) (fun k e => (HO2.out.lt k e).1)); clear ho3 hg3)
                    have hz3 := HB3.out.size
                    have d0' := (HB3.out.cell (p := ⟨b, off + k * 4, none⟩) hBb).trans E0.out
                    have hnw2 : ∀ j u, (#[.int .i64 6] : Array Value).toList[j]? = some u → (w3.alloc (.cells #[.int .i64 6] 3)).cell? ((⟨w3.heap.size, 0, none⟩ : Addr).add j) = some u := Blk.news (Blk.new w3 3 #[.int .i64 6])
                    have HNW2 := Lib.hid hnw2
                    have HM5 : Hid (q + 1 ≤ maxLen) := by unfold Hid maxLen; have := HQK.out; omega
                    have HM6 : Hid ((q + 1) * 8 ≤ 140737488355328) := by unfold Hid; have := HQK.out; omega
                    clear hnw2
                    go_wp2_with (at_builtin; refine wpList_append_own _ rfl (.tmp 75) (.tmp 81) 38 rfl w1.heap.size 3 ii _ 1 8 Tryd.underlying38 hii hi0 hi1 hi2 rfl (by decide) _ q (ks.map fun x => Value.int .i64 (x : Nat)) rfl (HK3.out.alloc _) ⟨w3.heap.size, 0, none⟩ 1 1 [.int .i64 6] rfl rfl HNW2.out (by simp [Value.oneCell']) HM5.out HM6.out (by simp; omega) ?_; intro v4 w4 ho4 hg4 _; obtain ⟨A4, c4, rfl⟩ := own_len ho4; have HO4 := Lib.hid ho4; have HK4 := Lib.hid (own_apartL (HO3.out.alloc _) (HK3.out.alloc _) (by decide) hg4); have HB4 := Lib.hid ((HB3.out.alloc HB3.out.size _).grown hg4 (by simp; omega) (fun k e => (HK3.out.lt k e).1)); clear ho4 hg4)
                    go_wp2
                    go_roundw
                    case rel =>
                      refine ⟨k + 1, n + 1 + tx.size, q + 1, bs ++ [32] ++ tx.data.toList, ks ++ [6], by omega, by go_num, by have := HQK.out; omega, HNX.out, ?_, ?_, ?_, ?_, ?_, ?_, HB4.out, ⟨_, _, rfl⟩, ⟨_, _, rfl⟩⟩
                      · unfold Hid; rw [List.length_append, List.length_append, HLN.out.1, List.length_append, HLN.out.2]; simp
                      · have hne : (keepT (l.take k)).map kx ≠ [] := fun e => by have h1 := HBS.out; rw [e] at h1; have h2 := HLN.out.1; rw [h1] at h2; simp [joinP] at h2; omega
                        have h := HST.out; rw [if_pos HFK.out] at h; unfold Hid; rw [h, List.map_append, List.map_cons, List.map_nil, joinP_snoc _ _ hne, ← HBS.out, List.append_assoc]; rfl
                      · have h := HST.out; rw [if_pos HFK.out] at h; unfold Hid; rw [h, List.map_append, HKS.out]; rfl
                      · have h := HST.out; rw [if_pos HFK.out] at h; unfold Hid; rw [h]; intro p hp; rw [List.map_append, List.mem_append] at hp; exact hp.elim (fun hp => HFT.out p hp) (fun hp => by rw [show p = kx ⟨6, tb, tx, ta⟩ by simpa using hp]; exact HFIT.out)
                      · have h := HK4.out; rw [strCells_bytesL, show ([.int .u8 32] : List Value) = Lib.byteCells [32] from rfl, ← byteCells_appendL, ← byteCells_appendL] at h; exact h
                      · unfold Hid; rw [List.map_append]; exact HO4.out
                    case measure => simp [intOf]; omega
                · have n6 : ((tk : Int) == 6) = false := by simp; omega
                  have n7 : ((tk : Int) == 7) = false := by simp; omega
                  have n0' : ((tk : Int) == 0) = false := by simp; omega
                  by_cases hn0 : n = 0
                  · have hnp : ¬ (0 : Int) < n := by omega
                    have HN0 := Lib.hid hn0
                    have hfk : keepK ⟨tk, tb, tx, ta⟩ = true := by simp [keepK, k7, k0]
                    have HFK := Lib.hid hfk
                    have E0 := Lib.hid ((hB.cell (p := ⟨b, off + k * 4, none⟩) hBb).symm.trans d0)
                    have E2 := Lib.hid ((hB.cell (p := ⟨b, off + k * 4 + 2, none⟩) hBb).symm.trans d2)
                    have HOb := Lib.hid hOb.out
                    have HOk := Lib.hid hOk.out
                    have HBS := Lib.hid hbs.out
                    have HKS := Lib.hid hks.out
                    have HFT := Lib.hid hfit.out
                    have HLN := Lib.hid hlens.out
                    have HNN := Lib.hid hn.out
                    have hszz := hB.size
                    have HNX : Hid (n + tx.size ≤ bnd (k + 1)) := by have h1 := HNN.out; have h2 := HXS.out; have h3 := bnd_succ k; exact (by omega : n + tx.size ≤ bnd (k + 1))
                    have HNB : Hid (n ≤ 10000000000) := by have h1 := HNN.out; have h2 := bnd_le k (by omega); exact (by omega : n ≤ 10000000000)
                    have HM3 : Hid (n + tx.size ≤ maxLen) := by unfold Hid maxLen; have := HNB.out; have := HXS.out; omega
                    have HM4 : Hid (n + tx.size ≤ 140737488355328) := by unfold Hid; have := HNB.out; have := HXS.out; omega
                    have HB2 := Lib.hid hB
                    have hz2 := HB2.out.size
                    clear hfk hOb hOk hbs hks hfit hlens hn k8 k7 k0 k6 k35 hn0
                    go_upto_region 15 with (at_builtin; go_loud (refine Lib.wpList_append_own_string _ rfl (.tmp 68) (.tmp 73) 37 9 rfl w1.heap.size 5 iu Tryd.underlying37 Tryd.underlying9 hiu hu0 hu1 hu2 _ n (Lib.byteCells bs) rfl HOb.out tx rfl HM3.out HM4.out (by omega) ?_); intro v3 w3 ho3 hg3 _; obtain ⟨A3, c3, rfl⟩ := own_len ho3; have HO3 := Lib.hid ho3; have HK3 := Lib.hid (own_apartL HOk.out HOb.out (by decide) hg3); have HB3 := Lib.hid (HB2.out.grown hg3 (by omega) (fun k e => (HOb.out.lt k e).1)); clear ho3 hg3)
                    have hz3 := HB3.out.size
                    have d0' := (HB3.out.cell (p := ⟨b, off + k * 4, none⟩) hBb).trans E0.out
                    have hnw2 : ∀ j u, (#[.int .i64 tk] : Array Value).toList[j]? = some u → (w3.alloc (.cells #[.int .i64 tk] 3)).cell? ((⟨w3.heap.size, 0, none⟩ : Addr).add j) = some u := Blk.news (Blk.new w3 3 #[.int .i64 tk])
                    have HNW2 := Lib.hid hnw2
                    have HM5 : Hid (q + 1 ≤ maxLen) := by unfold Hid maxLen; have := HQK.out; omega
                    have HM6 : Hid ((q + 1) * 8 ≤ 140737488355328) := by unfold Hid; have := HQK.out; omega
                    clear hnw2
                    go_wp2_with (at_builtin; refine wpList_append_own _ rfl (.tmp 75) (.tmp 81) 38 rfl w1.heap.size 3 ii _ 1 8 Tryd.underlying38 hii hi0 hi1 hi2 rfl (by decide) _ q (ks.map fun x => Value.int .i64 (x : Nat)) rfl (HK3.out.alloc _) ⟨w3.heap.size, 0, none⟩ 1 1 [.int .i64 tk] rfl rfl HNW2.out (by simp [Value.oneCell']) HM5.out HM6.out (by simp; omega) ?_; intro v4 w4 ho4 hg4 _; obtain ⟨A4, c4, rfl⟩ := own_len ho4; have HO4 := Lib.hid ho4; have HK4 := Lib.hid (own_apartL (HO3.out.alloc _) (HK3.out.alloc _) (by decide) hg4); have HB4 := Lib.hid ((HB3.out.alloc HB3.out.size _).grown hg4 (by simp; omega) (fun k e => (HK3.out.lt k e).1)); clear ho4 hg4)
                    go_wp2
                    go_roundw
                    case rel =>
                      refine ⟨k + 1, n + tx.size, q + 1, bs ++ tx.data.toList, ks ++ [tk], by omega, by go_num, by have := HQK.out; omega, HNX.out, ?_, ?_, ?_, ?_, ?_, ?_, HB4.out, ⟨_, _, rfl⟩, ⟨_, _, rfl⟩⟩
                      · unfold Hid; rw [List.length_append, HLN.out.1, List.length_append, HLN.out.2]; simp
                      · have h0 : bs = [] := List.eq_nil_of_length_eq_zero (by have := HLN.out.1; have := HN0.out; omega)
                        have hne : (keepT (l.take k)).map kx = [] := joinP_ne _ HFT.out (by rw [← HBS.out]; exact h0)
                        have h := HST.out; rw [if_pos HFK.out] at h; unfold Hid; rw [h, List.map_append, hne, h0]; simp [joinP, flatP, kx]
                      · have h := HST.out; rw [if_pos HFK.out] at h; unfold Hid; rw [h, List.map_append, HKS.out]; rfl
                      · have h := HST.out; rw [if_pos HFK.out] at h; unfold Hid; rw [h]; intro p hp; rw [List.map_append, List.mem_append] at hp; exact hp.elim (fun hp => HFT.out p hp) (fun hp => by rw [show p = kx ⟨tk, tb, tx, ta⟩ by simpa using hp]; exact HFIT.out)
                      · have h := HK4.out; rw [strCells_bytesL, ← byteCells_appendL] at h; exact h
                      · unfold Hid; rw [List.map_append]; exact HO4.out
                    case measure => simp [intOf]; omega
                  · have hnp : (0 : Int) < n := by omega
                    have hfk : keepK ⟨tk, tb, tx, ta⟩ = true := by simp [keepK, k7, k0]
                    have HFK := Lib.hid hfk
                    have E0 := Lib.hid ((hB.cell (p := ⟨b, off + k * 4, none⟩) hBb).symm.trans d0)
                    have E2 := Lib.hid ((hB.cell (p := ⟨b, off + k * 4 + 2, none⟩) hBb).symm.trans d2)
                    have HOb := Lib.hid hOb.out
                    have HOk := Lib.hid hOk.out
                    have HBS := Lib.hid hbs.out
                    have HKS := Lib.hid hks.out
                    have HFT := Lib.hid hfit.out
                    have HLN := Lib.hid hlens.out
                    have HNN := Lib.hid hn.out
                    have hszz := hB.size
                    have HNX : Hid (n + 1 + tx.size ≤ bnd (k + 1)) := by have h1 := HNN.out; have h2 := HXS.out; have h3 := bnd_succ k; exact (by omega : n + 1 + tx.size ≤ bnd (k + 1))
                    have HNB : Hid (n ≤ 10000000000) := by have h1 := HNN.out; have h2 := bnd_le k (by omega); exact (by omega : n ≤ 10000000000)
                    have hnw : ∀ j u, (#[.int .u8 32] : Array Value).toList[j]? = some u → (wr.alloc (.cells #[.int .u8 32] 5)).cell? ((⟨wr.heap.size, 0, none⟩ : Addr).add j) = some u := Blk.news (Blk.new wr 5 #[.int .u8 32])
                    have HNW := Lib.hid hnw
                    have HM1 : Hid (n + 1 ≤ maxLen) := by unfold Hid maxLen; have := HNB.out; omega
                    have HM2 : Hid ((n + 1) * 1 ≤ 140737488355328) := by unfold Hid; have := HNB.out; omega
                    clear hnw hfk hOb hOk hbs hks hfit hlens hn k8 k7 k0 k6 k35 hn0
                    go_upto_region 14 with (at_builtin; refine wpList_append_own _ rfl (.tmp 65) (.tmp 66) 37 rfl w1.heap.size 5 iu _ 1 1 Tryd.underlying37 hiu hu0 hu1 hu2 rfl (by decide) _ n (Lib.byteCells bs) rfl (HOb.out.alloc _) ⟨wr.heap.size, 0, none⟩ 1 1 [.int .u8 32] rfl rfl HNW.out (by simp [Value.oneCell']) HM1.out HM2.out (by simp; omega) ?_; intro v2 w2 ho2 hg2 _; obtain ⟨A2, c2, rfl⟩ := own_len ho2; have HO2 := Lib.hid ho2; have HK2 := Lib.hid (own_apartL (HOk.out.alloc _) (HOb.out.alloc _) (by decide) hg2); have HB2 := Lib.hid ((hB.alloc hB.size _).grown hg2 (by simp; omega) (fun k e => (HOb.out.lt k e).1)); clear ho2 hg2)
                    have hz2 := HB2.out.size
                    have d2' := (HB2.out.cell (p := ⟨b, off + k * 4 + 2, none⟩) hBb).trans E2.out
                    have HM3 : Hid (n + 1 + tx.size ≤ maxLen) := by unfold Hid maxLen; have := HNB.out; have := HXS.out; omega
                    have HM4 : Hid (n + 1 + tx.size ≤ 140737488355328) := by unfold Hid; have := HNB.out; have := HXS.out; omega
                    go_upto_region 15 with (at_builtin; go_loud (refine Lib.wpList_append_own_string _ rfl (.tmp 68) (.tmp 73) 37 9 rfl w1.heap.size 5 iu Tryd.underlying37 Tryd.underlying9 hiu hu0 hu1 hu2 _ (n + 1) (Lib.byteCells bs ++ [Value.int .u8 32]) rfl HO2.out tx rfl HM3.out HM4.out (by omega) ?_); intro v3 w3 ho3 hg3 _; obtain ⟨A3, c3, rfl⟩ := own_len ho3; have HO3 := Lib.hid ho3; have HK3 := Lib.hid (own_apartL HK2.out HO2.out (by decide) hg3); have HB3 := Lib.hid (HB2.out.grown hg3 (by omega) (fun k e => (HO2.out.lt k e).1)); clear ho3 hg3)
                    have hz3 := HB3.out.size
                    have d0' := (HB3.out.cell (p := ⟨b, off + k * 4, none⟩) hBb).trans E0.out
                    have hnw2 : ∀ j u, (#[.int .i64 tk] : Array Value).toList[j]? = some u → (w3.alloc (.cells #[.int .i64 tk] 3)).cell? ((⟨w3.heap.size, 0, none⟩ : Addr).add j) = some u := Blk.news (Blk.new w3 3 #[.int .i64 tk])
                    have HNW2 := Lib.hid hnw2
                    have HM5 : Hid (q + 1 ≤ maxLen) := by unfold Hid maxLen; have := HQK.out; omega
                    have HM6 : Hid ((q + 1) * 8 ≤ 140737488355328) := by unfold Hid; have := HQK.out; omega
                    clear hnw2
                    go_wp2_with (at_builtin; refine wpList_append_own _ rfl (.tmp 75) (.tmp 81) 38 rfl w1.heap.size 3 ii _ 1 8 Tryd.underlying38 hii hi0 hi1 hi2 rfl (by decide) _ q (ks.map fun x => Value.int .i64 (x : Nat)) rfl (HK3.out.alloc _) ⟨w3.heap.size, 0, none⟩ 1 1 [.int .i64 tk] rfl rfl HNW2.out (by simp [Value.oneCell']) HM5.out HM6.out (by simp; omega) ?_; intro v4 w4 ho4 hg4 _; obtain ⟨A4, c4, rfl⟩ := own_len ho4; have HO4 := Lib.hid ho4; have HK4 := Lib.hid (own_apartL (HO3.out.alloc _) (HK3.out.alloc _) (by decide) hg4); have HB4 := Lib.hid ((HB3.out.alloc HB3.out.size _).grown hg4 (by simp; omega) (fun k e => (HK3.out.lt k e).1)); clear ho4 hg4)
                    go_wp2
                    go_roundw
                    case rel =>
                      refine ⟨k + 1, n + 1 + tx.size, q + 1, bs ++ [32] ++ tx.data.toList, ks ++ [tk], by omega, by go_num, by have := HQK.out; omega, HNX.out, ?_, ?_, ?_, ?_, ?_, ?_, HB4.out, ⟨_, _, rfl⟩, ⟨_, _, rfl⟩⟩
                      · unfold Hid; rw [List.length_append, List.length_append, HLN.out.1, List.length_append, HLN.out.2]; simp
                      · have hne : (keepT (l.take k)).map kx ≠ [] := fun e => by have h1 := HBS.out; rw [e] at h1; have h2 := HLN.out.1; rw [h1] at h2; simp [joinP] at h2; omega
                        have h := HST.out; rw [if_pos HFK.out] at h; unfold Hid; rw [h, List.map_append, List.map_cons, List.map_nil, joinP_snoc _ _ hne, ← HBS.out, List.append_assoc]; rfl
                      · have h := HST.out; rw [if_pos HFK.out] at h; unfold Hid; rw [h, List.map_append, HKS.out]; rfl
                      · have h := HST.out; rw [if_pos HFK.out] at h; unfold Hid; rw [h]; intro p hp; rw [List.map_append, List.mem_append] at hp; exact hp.elim (fun hp => HFT.out p hp) (fun hp => by rw [show p = kx ⟨tk, tb, tx, ta⟩ by simpa using hp]; exact HFIT.out)
                      · have h := HK4.out; rw [strCells_bytesL, show ([.int .u8 32] : List Value) = Lib.byteCells [32] from rfl, ← byteCells_appendL, ← byteCells_appendL] at h; exact h
                      · unfold Hid; rw [List.map_append]; exact HO4.out
                    case measure => simp [intOf]; omega
      · obtain rfl : k = l.length := by omega
        have hnk : ¬ (l.length : Int) < l.length := by omega
        rw [List.take_length] at hbs hks hfit
        have hJ := join_toks ((keepT l).map kx) hfit.out 0
        rw [← hbs.out] at hJ
        have hkq : (keepT l).length = q := by rw [← hlens.out.2, hks.out, List.length_map]
        have HSBN := Lib.hid (hlens.out.1)
        by_cases hbig : 200000 < n
        · have hbI : (200000 : Int) < n := by omega
          clear hlt hJ hbig
          go_wp2_with fail
          refine (HAW.out _ (HG.out.below (HB1.out.trans (hB.mono HB1.out.size)))).out.mono ?_
          rintro e w7 ⟨rfl, hb7⟩
          have HB7 := Lib.hid ((HB1.out.trans (hB.mono HB1.out.size)).trans (hb7.mono (HB1.out.trans (hB.mono HB1.out.size)).size))
          clear hb7
          go_wp2
          go_ret
          exact ⟨rfl, HB7.out⟩
        · have hbI : ¬ (200000 : Int) < n := by omega
          have hbsz : (ByteArray.mk bs.toArray).size = n := by rw [← hlens.out.1]; simp [ByteArray.size]
          have hml : (tokR true 0 bs).length = q + 1 := by
            have := congrArg List.length hJ
            rw [List.length_map, List.length_append, List.length_map] at this
            rw [this, hkq]; rfl
          have hqless := HLESS.out
          have hok2 : scanOk ⟨bs.toArray⟩ = true := by
            unfold scanOk
            rw [hbsz, decide_eq_true (by omega : n ≤ 200000), show (ByteArray.mk bs.toArray).data.toList = bs from rfl, hml, decide_eq_true (by have := HLL.out; omega : q + 1 ≤ 40000)]
            rfl
          have hscL : scanL ⟨bs.toArray⟩ = tokR true 0 bs := by unfold scanL; rw [if_pos hok2]
          have hscE : scanE ⟨bs.toArray⟩ = 0 := by unfold scanE; rw [if_pos hok2]
          have SB := (HSC.out ⟨bs.toArray⟩ wr (HG.out.below (HB1.out.trans (hB.mono HB1.out.size)))).out
          rw [hscL, hscE] at SB
          have hfacts := joined_facts l (tokR true 0 bs) hJ
          generalize tokR true 0 bs = m at *
          obtain ⟨f1, f2, f3⟩ := hfacts
          have hOb2 := hOb.out
          rw [← hlens.out.1] at hOb2
          have hcv := conv_ownL hOb2
          have hqI : ((q + 1 : Nat) : Int) = q + 1 := by omega
          have hq4 : (q : Int) ≤ 40000 := by have := HLL.out; omega
          have hks2 : ∀ (i : Nat) (h : i < q) (h2 : i < m.length), ks[i]? = some m[i].k := fun i h h2 => by
            rw [hks.out, List.getElem?_map, List.getElem?_eq_getElem (by omega), f3 i (by omega) h2]
            rfl
          have HKS2 := Lib.hid hks2
          have HSB := Lib.hid SB
          have HF2 := Lib.hid f2
          have HML := Lib.hid hml
          have HOk := Lib.hid hOk.out
          have HLN := Lib.hid hlens.out.2
          have hb01 := HB1.out.trans (hB.mono HB1.out.size)
          have HB01 := Lib.hid hb01
          have HRl := Lib.hid ((HR.out.below hB).more hB.size)
          rw [hlens.out.1] at hcv
          clear hlt hJ hbig hbsz hml hqless hok2 hscL hscE SB f1 f2 f3 hOb2 hks2 hb01 hbs hks hfit hlens hOb hOk hkq hn hk
          go_wp2_with fail
          refine HSB.out.mono ?_
          rintro e w2 ⟨v, rfl, hO2, hb2⟩
          obtain ⟨Am, cm, rfl⟩ := own_len hO2
          have hRm : TRd w2 w2.heap.size Am m := Rd.of_own hO2
          have HRM := Lib.hid hRm
          have hRk : Rd wr wr.heap.size Ak (ks.map fun x => Value.int .i64 (x : Nat)) := Rd.of_own HOk.out
          have HRK := Lib.hid ((Rd.below hRk hb2).more hb2.size)
          have HRL := Lib.hid ((HRl.out.below hb2).more hb2.size)
          have HB2 := Lib.hid (HB01.out.trans (hb2.mono HB01.out.size))
          have hmlI : (m.length : Int) = q + 1 := by rw [HML.out]; exact hqI
          clear hO2 hb2 hRm hRk HSB HRl HB01 HOk hcv hB
          go_wp2_with fail
          go_loopw [10] (fun vi wr => ∃ i : Nat, i ≤ q ∧ vi = .int .i64 i ∧ Hid (Below w2.heap.size w2 wr)) (fun vi _ => q - (intOf vi).toNat)
          case atStart => exact ⟨0, Nat.zero_le _, rfl, Below.refl _ _⟩
          case round =>
            obtain ⟨i, hi, rfl, hb⟩ := hrel
            by_cases hiq : i < q
            · have him : i < m.length := by have := HML.out; omega
              obtain ⟨b, off, eA, hBb, d0, d1, d2, d3⟩ := (HRM.out.below hb.out).at_ i him
              cases eA
              obtain ⟨bk, ok, eB, hBk, hck⟩ := HRK.out (by rw [List.length_map, HLN.out]; omega)
              cases eB
              have ck := (hb.out.cell (p := ⟨bk, ok + i, none⟩) hBk).trans (hck i (.int .i64 (m[i].k : Nat)) (by rw [List.getElem?_map, HKS2.out i hiq him]; rfl))
              have hiqI : (i : Int) < q := by omega
              have himI : (i : Int) < q + 1 := by omega
              generalize m[i].k = kk at *
              clear d1 d2 d3 hck him
              go_wp2
              go_quiet (fail)
              go_wp2
              go_roundw
              case rel => exact ⟨i + 1, by omega, by go_num, ⟨hb.out.os, hb.out.tape, hb.out.output, hb.out.size, hb.out.block⟩⟩
              case measure => simp [intOf]; omega
            · obtain rfl : i = q := by omega
              have hnq : ¬ (i : Int) < i := by omega
              have HS1 := Lib.hid (strip_any Am cm m wr (by have := HML.out; omega) ((HRM.out.below hb.out).more hb.out.size))
              clear hiq
              go_wp2_with fail
              refine HS1.out.mono ?_
              rintro e w3 ⟨v, rfl, hO3, hb3⟩
              obtain ⟨A3, c3, rfl⟩ := own_len hO3
              have hb23 := hb.out.trans (hb3.mono hb.out.size)
              have hR3 : Rd w3 w3.heap.size A3 (stripV m) := Rd.of_own hO3
              have HR3 := Lib.hid hR3
              have HB23 := Lib.hid hb23
              have HS2 := Lib.hid (strip_any A0 c0 l w3 (by have := HLL.out; omega) ((HRL.out.below hb23).more hb23.size))
              clear hO3 hb3 hb23 hR3 HS1 hb
              go_wp2_with fail
              refine HS2.out.mono ?_
              rintro e w4 ⟨v, rfl, hO4, hb4⟩
              obtain ⟨A4, c4, rfl⟩ := own_len hO4
              have hR4 : Rd w4 w4.heap.size A4 (stripV l) := Rd.of_own hO4
              have hR34 := (Rd.below HR3.out hb4).more hb4.size
              have hlen1 : (stripL l).length ≤ 1000000 := by have h1 := keepT_len l; have h2 := HLL.out; unfold stripL; rw [List.length_map]; omega
              rw [HF2.out]
              have hq0 := eqStr_any A3 A4 c3 c4 (stripL l) (stripL l) w4 hlen1 hlen1 (by have h := hR34; unfold stripV at h; rw [HF2.out] at h; exact h) hR4
              have hd : decide (stripL l = stripL l) = true := by simp
              rw [hd] at hq0
              have HQ := Lib.hid hq0
              have HB4 := Lib.hid (HB2.out.trans ((HB23.out.trans (hb4.mono HB23.out.size)).mono HB2.out.size))
              clear hO4 hb4 hR4 hR34 hlen1 hq0 hd HS2 HB23 HR3
              go_wp2_with fail
              refine HQ.out.mono ?_
              rintro e w5 ⟨rfl, hb5⟩
              have HB5 := Lib.hid (HB4.out.trans (hb5.mono HB4.out.size))
              clear hb5 HQ HB4
              go_wp2_with fail
              refine (HAW.out _ (HG.out.below HB5.out)).out.mono ?_
              rintro e w6 ⟨rfl, hb6⟩
              have HB6 := Lib.hid (HB5.out.trans (hb6.mono HB5.out.size))
              clear hb6
              go_wp2
              go_ret
              exact ⟨rfl, HB6.out⟩
  · rw [if_neg hok, if_neg hok] at S
    have HS := Lib.hid S
    clear S AW hG hok hs
    go_enter Tryd.func5, Tryd.ntmps5
    go_wp2_with fail
    refine HS.out.mono ?_
    rintro e w1 ⟨v, rfl, hO, hb1⟩
    have HB1 := Lib.hid hb1
    clear hO hb1 HS
    go_wp2_with fail
    refine (HAW.out _ (HG.out.below HB1.out)).out.mono ?_
    rintro e w6 ⟨rfl, hb6⟩
    have HB6 := Lib.hid (HB1.out.trans (hb6.mono HB1.out.size))
    clear hb6
    go_wp2
    go_ret
    exact ⟨rfl, HB6.out⟩

end Go.Proofs.YtihnafocjognaaaDoor
