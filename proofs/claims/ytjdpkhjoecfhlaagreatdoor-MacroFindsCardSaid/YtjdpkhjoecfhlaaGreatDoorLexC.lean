/- Lex: quotes, lines' ends, comments, lines, signs: the walks. -/
import Derived.Test.YtjdpkhjoecfhlaaGreatDoorLexB
import Derived.Test.YtjdpkhjoecfhlaaGreatDoorShelf
namespace Go.Proofs.YtjdpkhjoecfhlaaGreatDoor
open Go.RowKit Go.Maps Go.Shelf

set_option maxHeartbeats 4000000 in
set_option maxRecDepth 100000 in
theorem quotedSize_any (s : ByteArray) (w : World) (hlt : 0 < s.size) (hs : s.size ≤ 140737488355328) : Calls Tryz.prog 204 #[.string s] w fun e w' => e = .returned (.tuple #[.int .i64 (quoN s.data.toList).1, .bool (quoN s.data.toList).2]) ∧ w' = w := by
  have hd := drop_at s 0 hlt
  rw [List.drop_zero] at hd
  have h1 : (quoN s.data.toList).1 = (quoT (s[0]'hlt) false (s.data.toList.drop 1)).1 + 1 := by
    conv => lhs; rw [hd]
    rfl
  have h2 : (quoN s.data.toList).2 = (quoT (s[0]'hlt) false (s.data.toList.drop 1)).2 := by
    conv => lhs; rw [hd]
    rfl
  generalize (quoN s.data.toList).1 = n at *
  generalize (quoN s.data.toList).2 = b at *
  have H1 := Lib.hid h1
  have H2 := Lib.hid h2
  clear hd h1 h2
  go_enter Tryz.func204, Tryz.ntmps204
  go_wp2
  go_loopw [2, 4, 5] (fun vn vt _ wr => ∃ (k : Nat) (tk : Bool), 1 ≤ k ∧ k ≤ s.size ∧ vn = .int .i64 k ∧ vt = .bool tk ∧ Hid (k + (quoT (s[0]'hlt) tk (s.data.toList.drop k)).1 = n ∧ (quoT (s[0]'hlt) tk (s.data.toList.drop k)).2 = b) ∧ wr = w) (fun vn _ _ _ => s.size - (intOf vn).toNat)
  case atStart => exact ⟨1, false, Nat.le_refl _, by omega, rfl, rfl, ⟨by rw [H1.out]; omega, H2.out.symm⟩, rfl⟩
  case round =>
    obtain ⟨k, tk, hk1, hk, rfl, rfl, hT, rfl⟩ := hrel
    by_cases hlk : k < s.size
    · have hst := hT.out
      rw [drop_at s k hlk, quoT] at hst
      by_cases q1 : ((s[k]'hlk).toNat : Int) = 10
      · rw [if_pos (by omega)] at hst
        have HS := Lib.hid hst
        have q1' : (((s[k]'hlk).toNat : Int) != 10) = false := by simp [q1]
        clear hst hT q1
        go_wp2
        go_ret2
        exact ⟨by rw [← HS.out.1, ← HS.out.2]; rfl, rfl⟩
      · rw [if_neg (by omega)] at hst
        have q1' : (((s[k]'hlk).toNat : Int) != 10) = true := by simp; omega
        by_cases q2 : s[k]'hlk = s[0]'hlt
        · have q2' : ((((s[k]'hlk).toNat : Nat) : Int) == (((s[0]'hlt).toNat : Nat) : Int)) = true := by rw [q2]; simp
          cases tk
          · rw [if_pos ⟨q2, rfl⟩] at hst
            have HS := Lib.hid hst
            clear hst hT q1 q2
            go_wp2
            go_ret2
            exact ⟨by rw [← HS.out.1, ← HS.out.2]; rfl, rfl⟩
          · rw [if_neg (by simp)] at hst
            simp only [Bool.not_true, Bool.and_false] at hst
            have HS := Lib.hid hst
            clear hst hT q1 q2
            by_cases q3 : ((s[k]'hlk).toNat : Int) = 92
            · have q3' : (((s[k]'hlk).toNat : Int) == 92) = true := by simp [q3]
              clear q3
              go_wp2
              go_roundw
              case rel => exact ⟨k + 1, false, by omega, by omega, by go_num, rfl, ⟨by rw [← HS.out.1]; omega, HS.out.2⟩, trivial⟩
              case measure => simp [intOf]; omega
            · have q3' : (((s[k]'hlk).toNat : Int) == 92) = false := by simp; omega
              clear q3
              go_wp2
              go_roundw
              case rel => exact ⟨k + 1, false, by omega, by omega, by go_num, rfl, ⟨by rw [← HS.out.1]; omega, HS.out.2⟩, trivial⟩
              case measure => simp [intOf]; omega
        · have q2' : ((((s[k]'hlk).toNat : Nat) : Int) == (((s[0]'hlt).toNat : Nat) : Int)) = false := by
            simp; intro e; exact q2 (UInt8.toNat_inj.1 (by omega))
          rw [if_neg (fun h => q2 h.1)] at hst
          by_cases q3 : ((s[k]'hlk).toNat : Int) = 92
          · have q3' : (((s[k]'hlk).toNat : Int) == 92) = true := by simp [q3]
            rw [decide_eq_true (by omega : (s[k]'hlk).toNat = 92)] at hst
            simp only [Bool.true_and] at hst
            have HS := Lib.hid hst
            clear hst hT q1 q2 q3
            go_wp2
            go_roundw
            case rel => exact ⟨k + 1, !tk, by omega, by omega, by go_num, rfl, ⟨by rw [← HS.out.1]; omega, HS.out.2⟩, trivial⟩
            case measure => simp [intOf]; omega
          · have q3' : (((s[k]'hlk).toNat : Int) == 92) = false := by simp; omega
            rw [decide_eq_false (by omega : ¬ (s[k]'hlk).toNat = 92)] at hst
            simp only [Bool.false_and] at hst
            have HS := Lib.hid hst
            clear hst hT q1 q2 q3
            go_wp2
            go_roundw
            case rel => exact ⟨k + 1, false, by omega, by omega, by go_num, rfl, ⟨by rw [← HS.out.1]; omega, HS.out.2⟩, trivial⟩
            case measure => simp [intOf]; omega
    · obtain rfl : k = s.size := by omega
      have hst := hT.out
      rw [drop_all] at hst
      have HS := Lib.hid hst
      clear hst hT
      go_wp2
      go_ret2
      exact ⟨by rw [← HS.out.1, ← HS.out.2]; simp [quoT], rfl⟩

/-! ### how far to a line's end -/
theorem upTo_index : ∀ l : List UInt8, (Lib.indexByte l 10 = -1 → upTo l = l.length) ∧ (Lib.indexByte l 10 ≠ -1 → (upTo l : Int) = Lib.indexByte l 10)
  | [] => by simp [Lib.indexByte, upTo]
  | c :: l => by
    have ih := upTo_index l
    have hge := Lib.indexByte_ge l 10
    by_cases hc : c = 10
    · subst hc; simp [Lib.indexByte, upTo]
    · have hc' : ¬ c.toNat = 10 := fun e => hc (UInt8.toNat_inj.1 (by rw [e]; rfl))
      rw [upTo, if_neg hc']
      simp only [Lib.indexByte, beq_iff_eq, hc, if_false, List.length_cons]
      by_cases h : Lib.indexByte l 10 = -1
      · rw [if_pos h]
        exact ⟨fun _ => by rw [ih.1 h], fun g => absurd rfl g⟩
      · rw [if_neg h]
        exact ⟨fun g => by omega, fun _ => by have := ih.2 h; omega⟩

set_option maxHeartbeats 4000000 in
set_option maxRecDepth 100000 in
theorem sizeUpTo_any (s : ByteArray) (w : World) (_hs : s.size ≤ 140737488355328) : Calls Tryz.prog 198 #[.string s, .string ⟨#[10]⟩] w fun e w' => e = .returned (.int .i64 (upTo s.data.toList)) ∧ w' = w := by
  have h := fun W => Tryz.strings_Index_one s 10 W
  obtain ⟨h1, h2⟩ := upTo_index s.data.toList
  have hge := Lib.indexByte_ge s.data.toList 10
  have hl : s.data.toList.length = s.size := by simp
  rw [hl] at h1
  generalize Lib.indexByte s.data.toList 10 = i at *
  have H := Lib.hid h
  by_cases q : i = -1
  · have e := h1 q
    subst q
    have HE := Lib.hid e
    clear h h1 h2 hge e hl
    go_enter Tryz.func198, Tryz.ntmps198
    go_wp2_with fail
    refine (H.out _).mono ?_
    rintro e w1 ⟨rfl, rfl⟩
    go_wp2
    go_ret
    exact ⟨retI (by rw [HE.out]), rfl⟩
  · have e := h2 q
    have HE := Lib.hid e
    have c1 : 0 ≤ i := by omega
    clear h h1 h2 hge e hl q
    go_enter Tryz.func198, Tryz.ntmps198
    go_wp2_with fail
    refine (H.out _).mono ?_
    rintro e w1 ⟨rfl, rfl⟩
    go_wp2
    go_ret
    exact ⟨retI (by rw [HE.out]), rfl⟩

theorem joinN_pre (l : List UInt8) : joinN l = if Lib.hasPrefix l [92, 10] = true then 2 else if Lib.hasPrefix l [92, 13, 10] = true then 3 else 0 := by
  unfold joinN Lib.hasPrefix
  split
  · simp [List.isPrefixOf]
  · simp [List.isPrefixOf]
  · rename_i h1 h2
    have a1 : ¬ [92, 10].isPrefixOf l = true := fun h => by
      obtain ⟨t, ht⟩ := List.isPrefixOf_iff_prefix.1 h
      exact h1 t ht.symm
    have a2 : ¬ [92, 13, 10].isPrefixOf l = true := fun h => by
      obtain ⟨t, ht⟩ := List.isPrefixOf_iff_prefix.1 h
      exact h2 t ht.symm
    rw [if_neg a1, if_neg a2]

set_option maxHeartbeats 4000000 in
set_option maxRecDepth 100000 in
theorem joinSize_any (s : ByteArray) (w : World) : Calls Tryz.prog 142 #[.string s] w fun e w' => e = .returned (.int .i64 (joinN s.data.toList)) ∧ w' = w := by
  have h1 := fun W => Tryz.strings_HasPrefix s ⟨#[92, 10]⟩ W
  have h2 := fun W => Tryz.strings_HasPrefix s ⟨#[92, 13, 10]⟩ W
  have e := joinN_pre s.data.toList
  simp only at h1
  simp only at h2
  generalize Lib.hasPrefix s.data.toList [92, 10] = b1 at *
  generalize Lib.hasPrefix s.data.toList [92, 13, 10] = b2 at *
  have H1 := Lib.hid h1
  have H2 := Lib.hid h2
  have HE := Lib.hid e
  clear h1 h2 e
  cases b1
  · cases b2
    all_goals
      go_enter Tryz.func142, Tryz.ntmps142
      go_wp2_with fail
      refine (H1.out _).mono ?_
      rintro e w1 ⟨rfl, rfl⟩
      go_wp2_with fail
      refine (H2.out _).mono ?_
      rintro e w1 ⟨rfl, rfl⟩
      go_wp2
      go_ret
      exact ⟨retI (by rw [HE.out]; simp), rfl⟩
  · go_enter Tryz.func142, Tryz.ntmps142
    go_wp2_with fail
    refine (H1.out _).mono ?_
    rintro e w1 ⟨rfl, rfl⟩
    go_wp2
    go_ret
    exact ⟨retI (by rw [HE.out]; simp), rfl⟩

theorem starT_index : ∀ l : List UInt8, (Lib.index l [42, 47] = -1 → starT l = l.length) ∧ (Lib.index l [42, 47] ≠ -1 → (starT l : Int) = Lib.index l [42, 47] + 2)
  | [] => by simp [Lib.index, starT]
  | [c] => by simp [Lib.index, starT, List.isPrefixOf]
  | c :: d :: l => by
    have ih := starT_index (d :: l)
    have hge := Lib.index_ge (d :: l) [42, 47]
    by_cases hc : c.toNat = 42 ∧ d.toNat = 47
    · have e1 : c = 42 := UInt8.toNat_inj.1 (by rw [hc.1]; rfl)
      have e2 : d = 47 := UInt8.toNat_inj.1 (by rw [hc.2]; rfl)
      subst e1 e2
      simp [Lib.index, starT, List.isPrefixOf]
    · rw [starT, if_neg hc, Lib.index]
      have hp : ¬ [42, 47].isPrefixOf (c :: d :: l) = true := fun h => hc (by
        simp [List.isPrefixOf] at h
        obtain ⟨rfl, rfl⟩ := h
        exact ⟨rfl, rfl⟩)
      rw [if_neg hp]
      simp only [beq_iff_eq, List.length_cons]
      by_cases h : Lib.index (d :: l) [42, 47] = -1
      · rw [if_pos h]
        exact ⟨fun _ => by rw [ih.1 h]; rfl, fun g => absurd rfl g⟩
      · rw [if_neg h]
        exact ⟨fun g => by omega, fun _ => by have := ih.2 h; omega⟩

theorem ext_drop (s : ByteArray) (k : Nat) : (s.extract k s.size).data.toList = s.data.toList.drop k := by
  rw [ByteArray.data_extract, Array.toList_extract]
  simp only [List.extract]
  rw [List.take_of_length_le (by simp)]
theorem ext_take (s : ByteArray) (k : Nat) : (s.extract 0 k).data.toList = s.data.toList.take k := by
  rw [ByteArray.data_extract, Array.toList_extract]; simp [List.extract]

theorem comN_pre (l : List UInt8) : comN l = if Lib.hasPrefix l [47, 47] = true then upTo l else if Lib.hasPrefix l [47, 42] = true then starT (l.drop 2) + 2 else 0 := by
  match l with
  | [] => simp [comN, Lib.hasPrefix, List.isPrefixOf]
  | [_] => simp [comN, Lib.hasPrefix, List.isPrefixOf]
  | c :: d :: l =>
    have e47 : ∀ c : UInt8, c.toNat = 47 ↔ (47 : UInt8) = c := fun c => ⟨fun h => UInt8.toNat_inj.1 (by rw [h]; rfl), fun h => by rw [← h]; rfl⟩
    have e42 : ∀ c : UInt8, c.toNat = 42 ↔ (42 : UInt8) = c := fun c => ⟨fun h => UInt8.toNat_inj.1 (by rw [h]; rfl), fun h => by rw [← h]; rfl⟩
    simp only [comN, Lib.hasPrefix, List.isPrefixOf, e47, e42, Bool.and_true, Bool.and_eq_true, beq_iff_eq, List.drop_succ_cons, List.drop_zero]

set_option maxHeartbeats 4000000 in
set_option maxRecDepth 100000 in
theorem commentSize_any (s : ByteArray) (m : Int) (w : World) (hs : s.size ≤ 4000000) (hm : w.cell? ⟨2, 0, none⟩ = some (.int .i64 m)) : Calls Tryz.prog 143 #[.string s] w fun e w' => e = .returned (.int .i64 (comN s.data.toList)) ∧ w' = w := by
  have h1 := Tryz.strings_HasPrefix s ⟨#[47, 47]⟩ w
  have h2 := Tryz.strings_HasPrefix s ⟨#[47, 42]⟩ w
  have h3 := sizeUpTo_any s w (by omega)
  have h4 := Tryz.strings_Index (s.extract 2 s.size) ⟨#[42, 47]⟩ m w (by rw [ByteArray.size_extract]; omega) hm
  rw [ext_drop] at h4
  have e := comN_pre s.data.toList
  obtain ⟨i1, i2⟩ := starT_index (s.data.toList.drop 2)
  have hsl := starT_le (s.data.toList.drop 2)
  have hge := Lib.index_ge (s.data.toList.drop 2) [42, 47]
  have hp2 : Lib.hasPrefix s.data.toList [47, 42] = true → 2 ≤ s.size := fun h => by
    have := (List.isPrefixOf_iff_prefix.1 h).length_le
    simpa using this
  have hl : (s.data.toList.drop 2).length = s.size - 2 := by simp
  rw [hl] at i1 hsl
  simp only at h1
  simp only at h2
  simp only at h4
  generalize Lib.hasPrefix s.data.toList [47, 47] = b1 at *
  generalize Lib.hasPrefix s.data.toList [47, 42] = b2 at *
  generalize Lib.index (s.data.toList.drop 2) [42, 47] = i at *
  generalize starT (s.data.toList.drop 2) = st at *
  have H1 := Lib.hid h1
  have H2 := Lib.hid h2
  have H3 := Lib.hid h3
  have H4 := Lib.hid h4
  have HE := Lib.hid e
  clear h1 h2 h3 h4 e hl hm
  cases b1
  · cases b2
    · clear hp2 i1 i2 hge hsl H4 H3
      go_enter Tryz.func143, Tryz.ntmps143
      go_wp2_with fail
      refine H1.out.mono ?_
      rintro e w1 ⟨rfl, rfl⟩
      go_wp2_with fail
      refine H2.out.mono ?_
      rintro e w1 ⟨rfl, rfl⟩
      go_wp2
      go_ret
      exact ⟨retI (by rw [HE.out]; simp), rfl⟩
    · have h2 := hp2 rfl
      have c2 : (2 : Int) ≤ s.size := by omega
      clear hp2 H3
      by_cases q : i = -1
      · have hst := Lib.hid (i1 q)
        subst q
        clear i1 i2 hge hsl
        go_enter Tryz.func143, Tryz.ntmps143
        go_wp2_with fail
        refine H1.out.mono ?_
        rintro e w1 ⟨rfl, rfl⟩
        go_wp2_with fail
        refine H2.out.mono ?_
        rintro e w1 ⟨rfl, rfl⟩
        go_wp2_with fail
        refine H4.out.mono ?_
        rintro e w1 ⟨rfl, rfl⟩
        go_wp2
        go_ret
        exact ⟨retI (by rw [HE.out, hst.out]; simp; omega), rfl⟩
      · have hst := Lib.hid (i2 q)
        obtain ⟨n, rfl⟩ : ∃ n : Nat, i = n := ⟨i.toNat, by omega⟩
        have hlt : (n : Int) < 4000000 := by have := i2 q; omega
        clear i1 i2 hge q hsl
        go_enter Tryz.func143, Tryz.ntmps143
        go_wp2_with fail
        refine H1.out.mono ?_
        rintro e w1 ⟨rfl, rfl⟩
        go_wp2_with fail
        refine H2.out.mono ?_
        rintro e w1 ⟨rfl, rfl⟩
        go_wp2_with fail
        refine H4.out.mono ?_
        rintro e w1 ⟨rfl, rfl⟩
        go_wp2
        go_ret
        exact ⟨retI (by have := hst.out; rw [HE.out]; simp; omega), rfl⟩
  · clear hp2 i1 i2 hge hsl H4 H2
    go_enter Tryz.func143, Tryz.ntmps143
    go_wp2_with fail
    refine H1.out.mono ?_
    rintro e w1 ⟨rfl, rfl⟩
    go_wp2_with fail
    refine H3.out.mono ?_
    rintro e w1 ⟨rfl, rfl⟩
    go_wp2
    go_ret
    exact ⟨retI (by rw [HE.out]; simp), rfl⟩

theorem suf_last (l : List UInt8) (c : UInt8) : Lib.hasSuffix l [c] = decide (l.getLast? = some c) := by
  unfold Lib.hasSuffix
  by_cases h : l.getLast? = some c
  · rw [decide_eq_true h]
    refine List.isSuffixOf_iff_suffix.2 ⟨l.dropLast, ?_⟩
    have hne : l ≠ [] := fun e => by rw [e] at h; simp at h
    rw [List.getLast?_eq_some_getLast hne] at h
    have h2 : l.getLast hne = c := by simpa using h
    have h3 := List.dropLast_concat_getLast hne
    rw [h2] at h3
    exact h3
  · rw [decide_eq_false h]
    cases q : [c].isSuffixOf l
    · rfl
    · obtain ⟨t, rfl⟩ := List.isSuffixOf_iff_suffix.1 q
      exact absurd (by simp) h
theorem trim_13 (l : List UInt8) : Lib.trimSuffix l [13] = trim13 l := by
  unfold Lib.trimSuffix trim13
  rw [suf_last]
  by_cases h : l.getLast? = some 13
  · rw [decide_eq_true h, if_pos rfl, if_pos h, List.dropLast_eq_take]; rfl
  · rw [decide_eq_false h, if_neg (by simp), if_neg h]

set_option maxHeartbeats 4000000 in
set_option maxRecDepth 100000 in
theorem lineSize_any (s : ByteArray) (w : World) (hs : s.size ≤ 4000000) : Calls Tryz.prog 137 #[.string s] w fun e w' => e = .returned (.int .i64 (lineN s.data.toList)) ∧ w' = w := by
  have hl : s.data.toList.length = s.size := by simp
  have HL := Lib.hid hl
  clear hl
  go_enter Tryz.func137, Tryz.ntmps137
  go_wp2
  go_loopw [3, 4] (fun ve _ wr => ∃ (e f : Nat), e ≤ s.size ∧ ve = .int .i64 e ∧ s.size < e + f ∧ Hid (lineGo f s.data.toList e = lineN s.data.toList) ∧ wr = w) (fun ve _ _ => s.size - (intOf ve).toNat)
  case atStart => exact ⟨0, s.size + 1, Nat.zero_le _, rfl, by omega, by unfold Hid lineN; rw [HL.out], rfl⟩
  case round =>
    obtain ⟨e, f, he, rfl, hf, hT, rfl⟩ := hrel
    obtain ⟨f, rfl⟩ : ∃ g, f = g + 1 := ⟨f - 1, by omega⟩
    have hst := hT.out
    rw [lineGo, HL.out] at hst
    have C1 := fun W => sizeUpTo_any (s.extract e s.size) W (by rw [ByteArray.size_extract]; omega)
    rw [ext_drop] at C1
    have hu := upTo_le (s.data.toList.drop e)
    rw [List.length_drop, HL.out] at hu
    generalize upTo (s.data.toList.drop e) = u at *
    have HC1 := Lib.hid C1
    by_cases q1 : e + u = s.size
    · rw [if_pos q1] at hst
      have HS := Lib.hid hst
      have q1' : (e : Int) + u = s.size := by omega
      clear hst hT C1 hu q1
      go_wp2_with fail
      refine (HC1.out _).mono ?_
      rintro e w1 ⟨rfl, rfl⟩
      go_wp2
      go_ret
      exact ⟨retI (by rw [← HS.out]), rfl⟩
    · rw [if_neg q1] at hst
      have q1' : ¬ (e : Int) + u = s.size := by omega
      have C2 := fun W => Tryz.strings_TrimSuffix (s.extract 0 (e + u)) ⟨#[13]⟩ W (by rw [ByteArray.size_extract]; omega)
      rw [ext_take, show (ByteArray.mk #[13]).data.toList = [13] from rfl, trim_13] at C2
      have hsz := trim13_le (s.data.toList.take (e + u))
      rw [List.length_take, HL.out] at hsz
      have C3 := fun W => Tryz.strings_HasSuffix ⟨(trim13 (s.data.toList.take (e + u))).toArray⟩ ⟨#[92]⟩ W (by simp [ByteArray.size]; omega)
      rw [show (ByteArray.mk (trim13 (s.data.toList.take (e + u))).toArray).data.toList = trim13 (s.data.toList.take (e + u)) by simp, show (ByteArray.mk #[92]).data.toList = [92] from rfl, suf_last] at C3
      have hxs : (ByteArray.mk (trim13 (s.data.toList.take (e + u))).toArray).size = (trim13 (s.data.toList.take (e + u))).length := by simp [ByteArray.size]
      generalize trim13 (s.data.toList.take (e + u)) = x at *
      generalize ByteArray.mk x.toArray = X at *
      have HC2 := Lib.hid C2
      by_cases q2 : x.getLast? = some 92
      · rw [if_pos q2] at hst
        simp only [decide_eq_true q2] at C3
        have HC3 := Lib.hid C3
        have HS := Lib.hid hst
        clear hst hT C1 C2 C3 q1 q2 hsz hxs
        go_wp2_with fail
        refine (HC1.out _).mono ?_
        rintro e w1 ⟨rfl, rfl⟩
        go_wp2_with fail
        refine (HC2.out _).mono ?_
        rintro e w1 ⟨rfl, rfl⟩
        go_wp2_with fail
        refine (HC3.out _).mono ?_
        rintro e w1 ⟨rfl, rfl⟩
        go_wp2
        go_roundw
        case rel => exact ⟨_, f, by omega, by go_num, by omega, HS.out, trivial⟩
        case measure => simp [intOf]; omega
      · rw [if_neg q2] at hst
        simp only [decide_eq_false q2] at C3
        have HC3 := Lib.hid C3
        have HS := Lib.hid (hxs.trans hst)
        clear hst hT C1 C2 C3 q1 q2 hsz hxs
        go_wp2_with fail
        refine (HC1.out _).mono ?_
        rintro e w1 ⟨rfl, rfl⟩
        go_wp2_with fail
        refine (HC2.out _).mono ?_
        rintro e w1 ⟨rfl, rfl⟩
        go_wp2_with fail
        refine (HC3.out _).mono ?_
        rintro e w1 ⟨rfl, rfl⟩
        go_wp2
        go_ret
        exact ⟨retI (by rw [← HS.out]), rfl⟩

end Go.Proofs.YtjdpkhjoecfhlaaGreatDoor
