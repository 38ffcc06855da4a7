/- Lex, in the document: all tokens of a text. -/
import Derived.Test.YtjdpkhjoecfhlaaGreatDoorLexAl
namespace Go.Proofs.YtjdpkhjoecfhlaaGreatDoor
open Go.RowKit Go.Maps Go.Shelf

/-- the flag behind the bytes of a piece up to a place -/
def lfF (f : Bool) (s : ByteArray) (j x : Nat) : Bool := f || ((s.data.toList.drop j).take (x - j)).contains 10
theorem lfF_start (f : Bool) (s : ByteArray) (j : Nat) : lfF f s j j = f := by simp [lfF]
theorem lfF_step (f : Bool) (s : ByteArray) (j x : Nat) (hj : j ≤ x) (hx : x < s.size) : lfF f s j (x + 1) = if s[x].toNat = 10 then true else lfF f s j x := by
  have hlen : x - j < (s.data.toList.drop j).length := by rw [List.length_drop]; simp; omega
  have e : (s.data.toList.drop j).take (x + 1 - j) = (s.data.toList.drop j).take (x - j) ++ [s[x]] := by
    rw [show x + 1 - j = (x - j) + 1 by omega, List.take_succ_eq_append_getElem hlen]
    congr 2
    rw [drop_getL s j (x - j) hlen (by omega)]
    congr 1; omega
  unfold lfF
  rw [e, List.contains_append]
  by_cases h : s[x].toNat = 10
  · have h' : s[x] = 10 := UInt8.toNat_inj.1 h
    rw [if_pos h, h']
    simp
  · have h' : ¬ s[x] = 10 := fun g => h (by rw [g]; rfl)
    rw [if_neg h]
    simp [Ne.symm h']

theorem tokG_len : ∀ k f a l, (tokG k f a l).length ≤ l.length + 1
  | 0, _, _, _ => Nat.zero_le _
  | k + 1, f, a, l => by
    rw [tokG_step]
    by_cases g : l.length ≤ (skipF f l).1
    · rw [if_pos g]; simp
    · rw [if_neg g]
      have h1 := left_less f l g
      have h2 := tokG_len k false (a + (skipF f l).1 + (tokF (skipF f l).2 (l.drop (skipF f l).1)).2) ((l.drop (skipF f l).1).drop (tokF (skipF f l).2 (l.drop (skipF f l).1)).2)
      rw [List.length_cons]
      omega
theorem tokR_len (f : Bool) (a : Nat) (l : List UInt8) : (tokR f a l).length ≤ l.length + 1 := tokG_len _ _ _ _

/-- the flag behind a piece, by the walk's own words -/
theorem piece_flag_at (f : Bool) (s : ByteArray) (j x : Nat) (hj : j < s.size) (hx : x = j + (pieceF f (s.data.toList.drop j)).1) (h : (pieceF f (s.data.toList.drop j)).1 ≠ 0) :
    (pieceF f (s.data.toList.drop j)).2 = if x = j + 1 ∧ 11 ≤ s[j].toNat ∧ s[j].toNat ≤ 13 then false else lfF f s j x := by
  have hd := drop_at s j hj
  have h1 := h
  rw [hd] at h1
  have := piece_flag f s[j] (s.data.toList.drop (j + 1)) h1
  rw [← hd] at this
  rw [this, hx]
  unfold lfF
  rw [show j + (pieceF f (s.data.toList.drop j)).1 - j = (pieceF f (s.data.toList.drop j)).1 by omega]
  by_cases g : (pieceF f (s.data.toList.drop j)).1 = 1
  · simp only [g, true_and]
  · rw [if_neg (fun k => g k.1), if_neg (fun k => g (by omega))]

theorem own_belowL {w w' : World} {base k n : Nat} {e : TypeId} {v : Value} {xs : List Value} (h : w.ownsRow base e k v n xs) (hb : Below w.heap.size w w') : w'.ownsRow base e k v n xs :=
  h.kept (row := none) ⟨hb.os, hb.tape, hb.output, hb.size, fun j hj _ => hb.block j hj⟩ (by cases hv : Value.ownBlock v <;> simp)

set_option maxHeartbeats 8000000 in
set_option maxRecDepth 100000 in
theorem all_any (s : ByteArray) (w : World) (hs : s.size ≤ 1000000) :
    Calls Tryz.prog 74 #[.string s] w fun e w' => ∃ v, e = .returned v ∧ w'.ownsRow w.heap.size 29 4 v (tokR true 0 s.data.toList).length (cellsT (tokR true 0 s.data.toList)) ∧ Below w.heap.size w w' := by
  obtain ⟨i0, hi, hz0, hz1, hz2⟩ := info_parts infoTk
  have hsI : (s.size : Int) ≤ 1000000 := by omega
  have HLEN := Lib.hid (tokR_len true 0 s.data.toList)
  have HS := Lib.hid hs
  have hs47 : s.size ≤ 140737488355328 := by omega
  have HS47 := Lib.hid hs47
  clear hs hs47
  go_enter Tryz.func74, Tryz.ntmps74
  go_wp2_with fail
  go_loopw [3, 4, 5, 6] (fun v vf va vb wr => ∃ (acc : List Tk) (i j : Nat) (f f0 : Bool), vf = .int .i64 i ∧ va = .int .i64 j ∧ vb = .bool f ∧ i ≤ j ∧ j ≤ s.size ∧ Hid (wr.ownsRow w.heap.size 29 4 v acc.length (cellsT acc)) ∧
    Hid (acc ++ tokR f0 i (s.data.toList.drop i) = tokR true 0 s.data.toList) ∧ Hid (skipF f0 (s.data.toList.drop i) = (j - i + (skipF f (s.data.toList.drop j)).1, (skipF f (s.data.toList.drop j)).2)) ∧
    Hid (Below w.heap.size w wr) ∧ Hid (∃ A c, v = .slice A acc.length c)) (fun _ _ va _ _ => s.size - (intOf va).toNat)
  case atStart => exact ⟨[], 0, 0, true, true, rfl, rfl, rfl, Nat.le_refl _, Nat.zero_le _, World.ownsRow_nil _ _ _ _, rfl, by unfold Hid; simp, Below.refl _ _, ⟨none, 0, rfl⟩⟩
  case round =>
    obtain ⟨acc, i, j, f, f0, rfl, rfl, rfl, hij, hjs, hO, hT, hSk, hB, hform⟩ := hrel
    obtain ⟨A, c, rfl⟩ := hform.out
    have HP := Lib.hid (piece_any f s j hjs wr HS47.out)
    obtain ⟨wz, hwz⟩ : ∃ wz : World, wz = wr := ⟨_, rfl⟩
    subst hwz
    have HIJ := Lib.hid hij
    clear hform
    by_cases hp : (pieceF f (s.data.toList.drop j)).1 = 0
    · have hP := HP.out
      rw [hp, Nat.add_zero] at hP
      have hsk := skipF_step f (s.data.toList.drop j)
      rw [if_pos hp] at hsk
      have hskN : skipF f0 (s.data.toList.drop i) = (j - i, (pieceF f (s.data.toList.drop j)).2) := by
        rw [hSk.out, hsk]; rfl
      have htf := tok_flag f (s.data.toList.drop j) hp
      have htk := tokR_step f0 i (s.data.toList.drop i)
      rw [hskN] at htk
      have hdl : (s.data.toList.drop i).length = s.size - i := by rw [List.length_drop]; simp
      have hijl : i + (j - i) = j := by omega
      have hacc : acc.length ≤ s.size := by
        have h1 := hT.out
        have h2 := HLEN.out
        have h3 := List.length_pos_iff.2 (tokR_ne f0 i (s.data.toList.drop i))
        rw [← h1, List.length_append] at h2
        simp at h2
        omega
      have HP2 := Lib.hid hP
      have hnj : ¬ (j : Int) < j := by omega
      have hijI : (i : Int) ≤ j := by omega
      have hjsI : (j : Int) ≤ s.size := by omega
      have HACC := Lib.hid hacc
      clear hP HP hsk hSk hp hacc
      by_cases hje : j = s.size
      · subst hje
        rw [if_pos (by dsimp only; omega)] at htk
        have hcl : (endTk f0 i (s.data.toList.drop i)).cells = [.int .i64 0, .string (s.extract i s.size), .string ⟨#[]⟩, .int .i64 s.size] := by
          unfold endTk
          rw [hskN]
          have e := ext_mid s i (s.size - i)
          rw [hijl] at e
          rw [e]
          simp only [Tk.cells, hijl]
          rfl
        have htot := hT.out
        rw [htk] at htot
        have HTOT := Lib.hid htot
        have HCL := Lib.hid hcl
        have hnw : ∀ j2 u, (#[.int .i64 0, .string (s.extract i s.size), .string ⟨#[]⟩, .int .i64 s.size] : Array Value).toList[j2]? = some u → (wz.alloc (.cells #[.int .i64 0, .string (s.extract i s.size), .string ⟨#[]⟩, .int .i64 s.size] 29)).cell? ((⟨wz.heap.size, 0, none⟩ : Addr).add j2) = some u := Blk.news (Blk.new wz 29 #[.int .i64 0, .string (s.extract i s.size), .string ⟨#[]⟩, .int .i64 s.size])
        have HNW := Lib.hid hnw
        have HOz := Lib.hid hO.out
        have HBz := Lib.hid hB.out
        have HSZ := Lib.hid HACC.out
        clear htk hcl htot hnw hskN htf hdl hijl hij hjs hT hO hB
        go_wp2_with fail
        refine HP2.out.mono ?_
        rintro e w1 ⟨rfl, rfl⟩
        go_wp2_with (at_builtin; go_loud (refine wpList_append_own _ rfl _ _ 22 rfl w.heap.size 29 i0 _ 4 48 Tryz.underlying22 hi hz0 hz1 hz2 rfl (by decide) _ acc.length (cellsT acc) rfl (HOz.out.alloc _) ⟨w1.heap.size, 0, none⟩ 1 1 [.int .i64 0, .string (s.extract i s.size), .string ⟨#[]⟩, .int .i64 s.size] rfl rfl HNW.out (by simp [Value.oneCell']) (by have := HSZ.out; have := HS.out; unfold maxLen; omega) (by have := HSZ.out; have := HS.out; omega) (by have := HBz.out.size; simp; omega) ?_); intro v' w5 hown' hgr _; have HOW := Lib.hid hown'; have HGR := Lib.hid hgr; clear hown' hgr)
        go_wp2
        go_ret
        refine ⟨_, rfl, ?_, ((HBz.out.alloc HBz.out.size _).grown HGR.out (by have := HBz.out.size; simp; omega) (fun k e => (HOz.out.lt k e).1))⟩
        rw [← HTOT.out, cellsT_append, show cellsT [endTk f0 i (s.data.toList.drop i)] = (endTk f0 i (s.data.toList.drop i)).cells by simp [cellsT], HCL.out, List.length_append]
        exact HOW.out
      · have hjlt : j < s.size := by omega
        have hjltI : (j : Int) < s.size := by omega
        have hjneI : ¬ (j : Int) = s.size := by omega
        rw [if_neg (by dsimp only; omega)] at htk
        have hdd : (s.data.toList.drop i).drop (j - i) = s.data.toList.drop j := by rw [List.drop_drop, hijl]
        obtain ⟨kd, hkd⟩ : ∃ kd, kd = tokF f (s.data.toList.drop j) := ⟨_, rfl⟩
        have htl := tokF_le f (s.data.toList.drop j) (List.ne_nil_of_length_pos (by rw [List.length_drop]; simp; omega))
        have hkind := tokF_kind f (s.data.toList.drop j)
        have TK := fun W => refTok_any f s j hjlt W HS47.out
        unfold tokV2 at TK
        simp only [hdd, htf] at htk
        rw [← hkd] at TK htl hkind htk
        obtain ⟨kk, zz⟩ := kd
        simp only at TK htl hkind htk
        rw [List.length_drop] at htl
        simp only [ByteArray.size_data, Array.length_toList] at htl
        obtain ⟨x, hx⟩ : ∃ x, x = j + zz := ⟨_, rfl⟩
        rw [← hx] at TK
        have hthe : theTk f0 i (s.data.toList.drop i) = ⟨kk, s.extract i j, s.extract j x, j⟩ := by
          unfold theTk
          rw [hskN]
          simp only [hdd, htf, ← hkd]
          have e1 := ext_mid s i (j - i)
          rw [hijl] at e1
          have e2 := ext_mid s j zz
          rw [← hx] at e2
          rw [e1, e2, hijl]
        rw [hthe, hijl, ← hx, List.drop_drop, ← hx] at htk
        have htot := hT.out
        rw [htk] at htot
        have hjx : j < x := by omega
        have hxs : x ≤ s.size := by omega
        have hjxI : (j : Int) ≤ x := by omega
        have hxsI : (x : Int) ≤ s.size := by omega
        have HTOT := Lib.hid htot
        have HTK := Lib.hid TK
        have HOz := Lib.hid hO.out
        have HBz := Lib.hid hB.out
        have HJX := Lib.hid hjx
        have HXS := Lib.hid hxs
        have HJL := Lib.hid hjlt
        clear htk TK htot hskN htf hdl hijl hij hjs hT hO hB hdd hkd htl hkind hx hthe hjx hxs hjlt hje
        go_wp2_with fail
        refine HP2.out.mono ?_
        rintro e w1 ⟨rfl, rfl⟩
        go_wp2_with fail
        refine (HTK.out _).mono ?_
        rintro e w2 ⟨rfl, hb2⟩
        have HO2 := Lib.hid (own_belowL HOz.out hb2)
        have HB2 := Lib.hid (HBz.out.trans (hb2.mono HBz.out.size))
        have hnb : (w2.alloc (.cells #[.int .i64 kk, .string (s.extract i j), .string (s.extract j x), .int .i64 j] 29)).heap[w2.heap.size]? = some (.cells #[.int .i64 kk, .string (s.extract i j), .string (s.extract j x), .int .i64 j] 29) := heap_alloc_new w2 _
        have HNB := Lib.hid hnb
        have hsz2 := HB2.out.size
        clear hb2 HOz HBz hnb
        go_wp2_with fail
        go_region_held3 (fun _ => True)
          (trivial)
          ((refine step_append_lies _ (by rfl) _ _ _ (by rfl) w.heap.size 29 i0 _ 4 48 Tryz.underlying22 hi hz0 hz1 hz2 rfl (by omega) (.slice A acc.length c) acc.length (cellsT acc) (by rfl) ((HO2.out.alloc _).drew)
              ⟨w2.heap.size, 0, none⟩ 1 1 [.int .i64 kk, .string (s.extract i j), .string (s.extract j x), .int .i64 j] (by rfl) (by rfl) (World.news_of_block (fr := (0, 0)) HNB.out) (by simp [Value.oneCell'])
              (by omega) (by have := HACC.out; have := HS.out; unfold maxLen; omega) (by have := HACC.out; have := HS.out; omega) (by simp; omega) (w2.heap.size + 1) (by simp) ?_; intro gg cap w3 hown3 hgrow hat hlt3))
        have HOW := Lib.hid hown3
        have HBN := Lib.hid (((HB2.out.alloc hsz2 _).drew).grown hgrow (by simp; omega) (fun k e => (HO2.out.lt k e).1))
        clear hown3 hgrow hat hlt3 HNB
        go_wp2
        go_roundw
        case rel =>
          refine ⟨acc ++ [⟨kk, s.extract i j, s.extract j x, j⟩], x, x, false, false, rfl, rfl, rfl, Nat.le_refl _, HXS.out, ?_, ?_, ?_, HBN.out, ⟨some ⟨gg, 0, none⟩, cap, by simp⟩⟩
          · have hcl : cellsT acc ++ [.int .i64 kk, .string (s.extract i j), .string (s.extract j x), .int .i64 j] = cellsT (acc ++ [(⟨kk, s.extract i j, s.extract j x, j⟩ : Tk)]) := by rw [cellsT_append]; simp [cellsT, Tk.cells]
            have h := HOW.out
            rw [hcl] at h
            unfold Hid
            rw [List.length_append]
            exact h
          · unfold Hid
            rw [List.append_assoc]
            exact HTOT.out
          · unfold Hid
            rw [Nat.sub_self, Nat.zero_add]
        case measure => simp [intOf]; have := HJX.out; have := HXS.out; omega
    · have hjlt : j < s.size := by
        have := pieceF_le f (s.data.toList.drop j)
        rw [List.length_drop] at this
        simp at this
        omega
      obtain ⟨x, hx⟩ : ∃ x, x = j + (pieceF f (s.data.toList.drop j)).1 := ⟨_, rfl⟩
      have hxs : x ≤ s.size := by
        have := pieceF_le f (s.data.toList.drop j)
        rw [List.length_drop] at this
        simp at this
        omega
      have hjx : j < x := by omega
      have hfl := piece_flag_at f s j x hjlt hx hp
      have hsk2 := skipF_step f (s.data.toList.drop j)
      rw [if_neg hp] at hsk2
      have hP := HP.out
      rw [← hx] at hP
      rw [List.drop_drop, ← hx] at hsk2
      have hpx : (pieceF f (s.data.toList.drop j)).1 = x - j := by omega
      rw [hpx] at hsk2
      generalize (pieceF f (s.data.toList.drop j)).2 = f' at *
      have HFL := Lib.hid hfl
      have HSK2 := Lib.hid hsk2
      have HP2 := Lib.hid hP
      have hjxI : (j : Int) < x := by omega
      have HJX := Lib.hid hjx
      have HXS := Lib.hid hxs
      have HJL := Lib.hid hjlt
      clear hp hx hfl hsk2 hP hpx HP hjx hxs hij hjs
      go_wp2_with fail
      refine HP2.out.mono ?_
      rintro e w1 ⟨rfl, rfl⟩
      go_wp2_with fail
      go_loopw [8, 6] (fun vi vb wr => ∃ k : Nat, j ≤ k ∧ k ≤ x ∧ vi = .int .i64 k ∧ vb = .bool (lfF f s j k) ∧ wr = w1) (fun vi _ _ => x - (intOf vi).toNat)
      case atStart => exact ⟨j, Nat.le_refl _, Nat.le_of_lt HJX.out, rfl, by rw [lfF_start], rfl⟩
      case round =>
        obtain ⟨k, hjk, hkx, rfl, rfl, rfl⟩ := hrel
        by_cases hlt : k < x
        · have hkI : (k : Int) < x := by omega
          have hks : k < s.size := by have := HXS.out; omega
          have hksI : (k : Int) < s.size := by omega
          have hst := lfF_step f s j k hjk hks
          by_cases c10 : (s[k]'hks).toNat = 10
          · rw [if_pos c10] at hst
            have HST := Lib.hid hst
            have c10I : (((s[k]'hks).toNat : Nat) : Int) = 10 := by omega
            clear hst c10
            go_wp2
            go_roundw
            case rel => exact ⟨k + 1, by omega, by omega, by go_num, by rw [HST.out], trivial⟩
            case measure => simp [intOf]; omega
          · rw [if_neg c10] at hst
            have HST := Lib.hid hst
            have c10I : ¬ (((s[k]'hks).toNat : Nat) : Int) = 10 := by omega
            clear hst c10
            go_wp2
            go_roundw
            case rel => exact ⟨k + 1, by omega, by omega, by go_num, by rw [HST.out], trivial⟩
            case measure => simp [intOf]; omega
        · obtain rfl : k = x := by omega
          have hnk : ¬ (k : Int) < k := by omega
          have hfl := HFL.out
          have hskN : skipF f0 (s.data.toList.drop i) = (k - i + (skipF f' (s.data.toList.drop k)).1, (skipF f' (s.data.toList.drop k)).2) := by
            have h1 := HIJ.out
            have h2 := HJX.out
            have h3 := HSK2.out
            have h4 := hSk.out
            rw [h4, h3]
            simp only [Prod.mk.injEq, and_true]
            omega
          have HSKN := Lib.hid hskN
          have HBz := Lib.hid hB.out
          have HOz := Lib.hid hO.out
          have HTz := Lib.hid hT.out
          clear hlt hskN hSk HSK2 HFL hB hO hT
          by_cases h1 : k = j + 1
          · have h1I : (k : Int) = j + 1 := by omega
            have h1B : ((k : Int) == j + 1) = true := by rw [h1I]; simp
            by_cases h11 : 11 ≤ (s[j]'hjlt).toNat
            · have h11I : (11 : Int) ≤ (((s[j]'hjlt).toNat : Nat) : Int) := by omega
              by_cases h13 : (s[j]'hjlt).toNat ≤ 13
              · have h13I : (((s[j]'hjlt).toNat : Nat) : Int) ≤ 13 := by omega
                rw [if_pos ⟨h1, h11, h13⟩] at hfl
                have HFN := Lib.hid hfl
                have HK1 := Lib.hid h1
                clear hfl h1 h11 h13
                go_wp2
                go_roundw
                case rel => exact ⟨acc, i, k, _, f0, rfl, rfl, rfl, by have := HIJ.out; have := HJX.out; omega, HXS.out, HOz.out, HTz.out, by have h := HSKN.out; rw [HFN.out] at h; exact h, HBz.out, ⟨A, c, rfl⟩⟩
                case measure => simp [intOf]; have := HJX.out; have := HXS.out; omega
              · have h13I : ¬ (((s[j]'hjlt).toNat : Nat) : Int) ≤ 13 := by omega
                rw [if_neg (fun g => h13 g.2.2)] at hfl
                have HFN := Lib.hid hfl
                have HK1 := Lib.hid h1
                clear hfl h1 h11 h13
                go_wp2
                go_roundw
                case rel => exact ⟨acc, i, k, _, f0, rfl, rfl, rfl, by have := HIJ.out; have := HJX.out; omega, HXS.out, HOz.out, HTz.out, by have h := HSKN.out; rw [HFN.out] at h; exact h, HBz.out, ⟨A, c, rfl⟩⟩
                case measure => simp [intOf]; have := HJX.out; have := HXS.out; omega
            · have h11I : ¬ (11 : Int) ≤ (((s[j]'hjlt).toNat : Nat) : Int) := by omega
              rw [if_neg (fun g => h11 g.2.1)] at hfl
              have HFN := Lib.hid hfl
              have HK1 := Lib.hid h1
              clear hfl h1 h11
              go_wp2
              go_roundw
              case rel => exact ⟨acc, i, k, _, f0, rfl, rfl, rfl, by have := HIJ.out; have := HJX.out; omega, HXS.out, HOz.out, HTz.out, by have h := HSKN.out; rw [HFN.out] at h; exact h, HBz.out, ⟨A, c, rfl⟩⟩
              case measure => simp [intOf]; have := HJX.out; have := HXS.out; omega
          · have h1I : ¬ (k : Int) = j + 1 := by omega
            have h1B : ((k : Int) == j + 1) = false := by simpa using h1I
            rw [if_neg (fun g => h1 g.1)] at hfl
            have HFN := Lib.hid hfl
            clear hfl h1
            go_wp2
            go_roundw
            case rel => exact ⟨acc, i, k, _, f0, rfl, rfl, rfl, by have := HIJ.out; have := HJX.out; omega, HXS.out, HOz.out, HTz.out, by have h := HSKN.out; rw [HFN.out] at h; exact h, HBz.out, ⟨A, c, rfl⟩⟩
            case measure => simp [intOf]; have := HJX.out; have := HXS.out; omega

set_option maxHeartbeats 4000000 in
set_option maxRecDepth 100000 in
theorem refScan_any (s : ByteArray) (w : World) (hs : s.size ≤ 140737488355328) :
    Calls Tryz.prog 39 #[.string s] w fun e w' => ∃ v, e = .returned (.tuple #[v, .int .i64 (scanE s)]) ∧ w'.ownsRow w.heap.size 29 4 v (scanL s).length (cellsT (scanL s)) ∧ Below w.heap.size w w' := by
  by_cases h1 : s.size ≤ 200000
  · have AL := all_any s w (by omega)
    have hc : ¬ (200000 : Int) < s.size := by omega
    have hsc : scanOk s = decide ((tokR true 0 s.data.toList).length ≤ 40000) := by unfold scanOk; rw [decide_eq_true h1, Bool.true_and]
    unfold scanE scanL
    rw [hsc]
    have hnn : tokR true 0 s.data.toList ≠ [] := tokR_ne _ _ _
    generalize tokR true 0 s.data.toList = l at *
    have hp := List.length_pos_iff.2 hnn
    have HAL := Lib.hid AL
    clear AL hsc h1 hnn hs
    by_cases h2 : l.length ≤ 40000
    · have h2I : ¬ (40000 : Int) < l.length := by omega
      rw [decide_eq_true h2, if_pos rfl, if_pos rfl]
      clear h2
      go_enter Tryz.func39, Tryz.ntmps39
      go_wp2_with fail
      refine HAL.out.mono ?_
      rintro e w1 ⟨v, rfl, hO, hb⟩
      obtain ⟨g, cap, rfl, hgb, hglt⟩ := hO.form hp
      have HO := Lib.hid hO
      have HB := Lib.hid hb
      clear hO hb hgb hglt HAL
      go_wp2
      go_ret2
      exact ⟨_, rfl, HO.out, HB.out⟩
    · have h2I : (40000 : Int) < l.length := by omega
      rw [decide_eq_false h2, if_neg (by decide), if_neg (by decide)]
      clear h2
      go_enter Tryz.func39, Tryz.ntmps39
      go_wp2_with fail
      refine HAL.out.mono ?_
      rintro e w1 ⟨v, rfl, hO, hb⟩
      obtain ⟨g, cap, rfl, hgb, hglt⟩ := hO.form hp
      have HB := Lib.hid hb
      clear hO hb hgb hglt HAL
      go_wp2
      go_ret2
      exact ⟨_, rfl, World.ownsRow_nil _ _ _ _, HB.out⟩
  · have hc : (200000 : Int) < s.size := by omega
    have hsc : scanOk s = false := by unfold scanOk; rw [decide_eq_false h1, Bool.false_and]
    unfold scanE scanL
    rw [hsc]
    clear hsc h1 hs
    go_enter Tryz.func39, Tryz.ntmps39
    go_wp2
    go_ret2
    exact ⟨_, rfl, World.ownsRow_nil _ _ _ _, Below.refl _ _⟩

end Go.Proofs.YtjdpkhjoecfhlaaGreatDoor
