/- Lex, in the document: a token. -/
import Derived.Test.YtjdpkhjoecfhlaaGreatDoorLexZ
namespace Go.Proofs.YtjdpkhjoecfhlaaGreatDoor
open Go.RowKit Go.Maps Go.Shelf

theorem signG_head (c : UInt8) (l : List UInt8) : ∀ L : List (List UInt8), (∀ g ∈ L, g ≠ [] ∧ g.head? ≠ some c) → signG L (c :: l) = 0
  | [], _ => rfl
  | g :: L, h => by
    have hg := h g (by simp)
    rw [signG, if_neg, signG_head c l L (fun x hx => h x (by simp [hx]))]
    cases g with
    | nil => exact absurd rfl hg.1
    | cons d g =>
      intro hp
      simp [List.isPrefixOf] at hp
      exact hg.2 (by simp [hp.1])
theorem signN_quote1 (l : List UInt8) : signN (39 :: l) = 0 := signG_head _ _ _ (by decide)
theorem signN_quote2 (l : List UInt8) : signN (34 :: l) = 0 := signG_head _ _ _ (by decide)
theorem wordN_let (c : UInt8) (l : List UInt8) (h : isLet c = true) : wordN (c :: l) = wordT (c :: l) ∧ wordN (c :: l) ≠ 0 := by
  rw [wordN, wordT, if_pos h, if_pos (by simp [h])]; exact ⟨rfl, by omega⟩
theorem wordN_not (c : UInt8) (l : List UInt8) (h : isLet c = false) : wordN (c :: l) = 0 := by
  rw [wordN, if_neg (by simp [h])]
theorem numN_beg (c : UInt8) (l : List UInt8) (h : begNum (c :: l) = true) : numN (c :: l) = numT c l + 1 := by rw [numN, if_pos h]
theorem numN_not (c : UInt8) (l : List UInt8) (h : begNum (c :: l) = false) : numN (c :: l) = 0 := by rw [numN, if_neg (by simp [h])]

theorem tok_cases (f : Bool) (c : UInt8) (l : List UInt8) :
    (f = true ∧ c = 35 ∧ tokF f (c :: l) = (7, lineN (c :: l))) ∨
    (¬ (f = true ∧ c = 35) ∧ isLet c = true ∧ tokF f (c :: l) = (if keysL.contains ((c :: l).take (wordT (c :: l))) = true then 2 else 1, wordT (c :: l))) ∨
    (¬ (f = true ∧ c = 35) ∧ isLet c = false ∧ begNum (c :: l) = true ∧ tokF f (c :: l) = (3, numT c l + 1)) ∨
    (¬ (f = true ∧ c = 35) ∧ isLet c = false ∧ begNum (c :: l) = false ∧ c = 39 ∧ (quoN (c :: l)).2 = true ∧ tokF f (c :: l) = (4, (quoN (c :: l)).1)) ∨
    (¬ (f = true ∧ c = 35) ∧ isLet c = false ∧ begNum (c :: l) = false ∧ c = 34 ∧ (quoN (c :: l)).2 = true ∧ tokF f (c :: l) = (5, (quoN (c :: l)).1)) ∨
    (¬ (f = true ∧ c = 35) ∧ isLet c = false ∧ begNum (c :: l) = false ∧ (c = 39 ∨ c = 34) ∧ (quoN (c :: l)).2 = false ∧ tokF f (c :: l) = (8, 1)) ∨
    (¬ (f = true ∧ c = 35) ∧ isLet c = false ∧ begNum (c :: l) = false ∧ ¬ c = 39 ∧ ¬ c = 34 ∧ signN (c :: l) ≠ 0 ∧ tokF f (c :: l) = (6, signN (c :: l))) ∨
    (¬ (f = true ∧ c = 35) ∧ isLet c = false ∧ begNum (c :: l) = false ∧ ¬ c = 39 ∧ ¬ c = 34 ∧ signN (c :: l) = 0 ∧ tokF f (c :: l) = (8, 1)) := by
  unfold tokF
  simp only [List.head?_cons, Option.some.injEq]
  by_cases h1 : f = true ∧ c = 35
  · exact .inl ⟨h1.1, h1.2, by rw [if_pos h1]⟩
  · refine .inr ?_
    rw [if_neg h1]
    cases h2 : isLet c
    · refine .inr ?_
      rw [if_neg (by rw [wordN_not c l h2]; simp)]
      cases h3 : begNum (c :: l)
      · refine .inr ?_
        rw [if_neg (by rw [numN_not c l h3]; simp)]
        by_cases h4 : c = 39
        · subst h4
          cases h5 : (quoN (39 :: l)).2
          · refine .inr (.inr (.inl ⟨h1, rfl, rfl, .inl rfl, rfl, ?_⟩))
            rw [if_neg (by simp), if_neg (by simp), if_neg (by rw [signN_quote1]; simp)]
          · exact .inl ⟨h1, rfl, rfl, rfl, rfl, by rw [if_pos ⟨rfl, rfl⟩]⟩
        · rw [if_neg (fun g => h4 g.1)]
          by_cases h6 : c = 34
          · subst h6
            cases h5 : (quoN (34 :: l)).2
            · refine .inr (.inr (.inl ⟨h1, rfl, rfl, .inr rfl, rfl, ?_⟩))
              rw [if_neg (by simp), if_neg (by rw [signN_quote2]; simp)]
            · exact .inr (.inl ⟨h1, rfl, rfl, rfl, rfl, by rw [if_pos ⟨rfl, rfl⟩]⟩)
          · rw [if_neg (fun g => h6 g.1)]
            by_cases h7 : signN (c :: l) ≠ 0
            · exact .inr (.inr (.inr (.inl ⟨h1, rfl, rfl, h4, h6, h7, by rw [if_pos h7]⟩)))
            · exact .inr (.inr (.inr (.inr ⟨h1, rfl, rfl, h4, h6, by omega, by rw [if_neg h7]⟩)))
      · exact .inl ⟨h1, rfl, rfl, by rw [if_pos (by rw [numN_beg c l h3]; omega), numN_beg c l h3]⟩
    · obtain ⟨e1, e2⟩ := wordN_let c l h2
      exact .inl ⟨h1, rfl, by rw [if_pos e2, e1]⟩

theorem headN_d (l : List UInt8) : headN l = (l.headD 0).toNat := by cases l <;> rfl
theorem begNum_d (c : UInt8) (l : List UInt8) : begNum (c :: l) = (isDig c || (decide (c.toNat = 46) && isDig (l.headD 0))) := by
  cases l with
  | nil => simp [begNum, show isDig 0 = false by decide]
  | cons d l => simp [begNum]

def tokV2 (f : Bool) (s : ByteArray) (k : Nat) : Value := .tuple #[.int .i64 ((tokF f (s.data.toList.drop k)).1 : Nat), .int .i64 (k + (tokF f (s.data.toList.drop k)).2 : Nat)]

set_option maxHeartbeats 4000000 in
set_option maxRecDepth 100000 in
theorem refTok_any (f : Bool) (s : ByteArray) (k : Nat) (hk : k < s.size) (w : World) (hs : s.size ≤ 140737488355328) :
    Calls Tryz.prog 109 #[.string s, .int .i64 k, .bool f] w fun e w' => e = .returned (tokV2 f s k) ∧ Below w.heap.size w w' := by
  have hd := drop_at s k hk
  have hkI : (k : Int) < s.size := by omega
  have hsI : (s.size : Int) ≤ 140737488355328 := by omega
  have HS := Lib.hid hs
  have hcases := tok_cases f s[k] (s.data.toList.drop (k + 1))
  rw [← hd] at hcases
  have hV : tokV2 f s k = .tuple #[.int .i64 ((tokF f (s.data.toList.drop k)).1 : Nat), .int .i64 (k + (tokF f (s.data.toList.drop k)).2 : Nat)] := rfl
  generalize tokV2 f s k = V at *
  rcases hcases with ⟨r1, r2, r3⟩ | ⟨r1, r2, r3⟩ | ⟨r1, r2, r3, r4⟩ | ⟨r1, r2, r3, r4, r5, r6⟩ | ⟨r1, r2, r3, r4, r5, r6⟩ | ⟨r1, r2, r3, r4, r5, r6⟩ | ⟨r1, r2, r3, r4, r5, r6, r7⟩ | ⟨r1, r2, r3, r4, r5, r6, r7⟩
  · have LN := fun W => refLine_any s k hk (by rw [r2]; rfl) W hs
    rw [r3] at hV
    have HV := Lib.hid hV
    have HLN := Lib.hid LN
    have c35 : ((s[k].toNat : Nat) : Int) = 35 := by rw [r2]; rfl
    subst r1
    clear hs hd r2 r3 hV LN
    go_enter Tryz.func109, Tryz.ntmps109
    go_wp2_with fail
    refine (HLN.out _).mono ?_
    rintro e w1 ⟨rfl, rfl⟩
    go_wp2
    go_ret2
    exact ⟨by rw [HV.out]; rfl, Below.refl _ _⟩
  · have L1 := fun W => letter_any s[k] W
    have W1 := fun W => refWordAt_any s k (by omega) W hs
    have n35 : ¬ s[k] = 35 := fun g => by rw [g] at r2; exact absurd r2 (by decide)
    have c35 : ¬ ((s[k].toNat : Nat) : Int) = 35 := fun g => n35 (UInt8.toNat_inj.1 (show s[k].toNat = 35 by omega))
    rw [r2] at L1
    rw [r3] at hV
    have hV2 : V = refWordAt s k := hV
    obtain ⟨a, b, hW⟩ : ∃ a b : Int, refWordAt s k = .tuple #[.int .i64 a, .int .i64 b] := ⟨_, _, rfl⟩
    rw [hW] at hV2
    simp only [hW] at W1
    have HV := Lib.hid hV2
    have HL1 := Lib.hid L1
    have HW1 := Lib.hid W1
    clear hs hd r1 r2 r3 hV hV2 hW L1 W1 n35
    go_enter Tryz.func109, Tryz.ntmps109
    go_wp2_with fail
    refine (HL1.out _).mono ?_
    rintro e w1 ⟨rfl, rfl⟩
    go_wp2_with fail
    refine (HW1.out _).mono ?_
    rintro e w2 ⟨rfl, hb2⟩
    go_wp2
    go_ret2
    exact ⟨by rw [HV.out]; rfl, hb2⟩
  · have L1 := fun W => letter_any s[k] W
    have D1 := fun W => digit_any s[k] W
    have D2 := fun W => digit_any ((s.data.toList.drop (k + 1)).headD 0) W
    have BA := fun W => byteAt_any s (k + 1) W hs
    have N1 := fun W => refNumber_any s k hk W hs
    rw [show ((k + 1 : Nat) : Int) = k + 1 by omega, headN_d] at BA
    have n35 : ¬ s[k] = 35 := fun g => by
      rw [hd, begNum_d, g, show isDig 35 = false by decide, show decide (UInt8.toNat 35 = 46) = false by decide] at r3
      simp at r3
    have c35 : ¬ ((s[k].toNat : Nat) : Int) = 35 := fun g => n35 (UInt8.toNat_inj.1 (show s[k].toNat = 35 by omega))
    have hV2 : V = .tuple #[.int .i64 3, .int .i64 ((k + 1 + numT s[k] (s.data.toList.drop (k + 1)) : Nat) : Int)] := by
      rw [hV, r4, show k + (numT s[k] (s.data.toList.drop (k + 1)) + 1) = k + 1 + numT s[k] (s.data.toList.drop (k + 1)) by omega]; rfl
    generalize k + 1 + numT s[k] (s.data.toList.drop (k + 1)) = m at *
    rw [hd, begNum_d] at r3
    rw [r2] at L1
    have HV := Lib.hid hV2
    have HL1 := Lib.hid L1
    have HN1 := Lib.hid N1
    cases q : isDig s[k]
    · rw [q] at D1 r3
      simp only [Bool.false_or, Bool.and_eq_true, decide_eq_true_eq] at r3
      rw [r3.2] at D2
      have c46 : ((s[k].toNat : Nat) : Int) = 46 := by omega
      have e46 : s[k] = 46 := UInt8.toNat_inj.1 r3.1
      have hL2 : ∀ W, Calls Tryz.prog 153 #[.int .u8 46] W fun e w' => e = .returned (.bool false) ∧ w' = W := by rw [e46] at L1; exact L1
      have hD2 : ∀ W, Calls Tryz.prog 155 #[.int .u8 46] W fun e w' => e = .returned (.bool false) ∧ w' = W := by rw [e46] at D1; exact D1
      generalize (s.data.toList.drop (k + 1)).headD 0 = d at *
      have HL1 := Lib.hid hL2
      have HD1 := Lib.hid hD2
      have HD2 := Lib.hid D2
      have HBA := Lib.hid BA
      clear hs hd r1 r2 r3 r4 hV hV2 L1 D1 D2 BA N1 n35 q e46 hL2 hD2 c35
      go_enter Tryz.func109, Tryz.ntmps109
      go_wp2_with fail
      refine (HL1.out _).mono ?_
      rintro e w1 ⟨rfl, rfl⟩
      go_wp2_with fail
      refine (HD1.out _).mono ?_
      rintro e w2 ⟨rfl, rfl⟩
      go_wp2_with fail
      refine (HBA.out _).mono ?_
      rintro e w3 ⟨rfl, rfl⟩
      go_wp2_with fail
      refine (HD2.out _).mono ?_
      rintro e w4 ⟨rfl, rfl⟩
      go_wp2_with fail
      refine (HN1.out _).mono ?_
      rintro e w5 ⟨rfl, rfl⟩
      go_wp2
      go_ret2
      exact ⟨by rw [HV.out]; rfl, Below.refl _ _⟩
    · rw [q] at D1
      have HD1 := Lib.hid D1
      clear hs hd r1 r2 r3 r4 hV hV2 L1 D1 D2 BA N1 n35 q
      go_enter Tryz.func109, Tryz.ntmps109
      go_wp2_with fail
      refine (HL1.out _).mono ?_
      rintro e w1 ⟨rfl, rfl⟩
      go_wp2_with fail
      refine (HD1.out _).mono ?_
      rintro e w2 ⟨rfl, rfl⟩
      go_wp2_with fail
      refine (HN1.out _).mono ?_
      rintro e w5 ⟨rfl, rfl⟩
      go_wp2
      go_ret2
      exact ⟨by rw [HV.out]; rfl, Below.refl _ _⟩
  · have L1 : ∀ W, Calls Tryz.prog 153 #[.int .u8 39] W fun e w' => e = .returned (.bool false) ∧ w' = W := fun W => letter_any 39 W
    have D1 : ∀ W, Calls Tryz.prog 155 #[.int .u8 39] W fun e w' => e = .returned (.bool false) ∧ w' = W := fun W => digit_any 39 W
    have Q1 := fun W => refQuoted_any s k hk W hs
    have cc : ((s[k].toNat : Nat) : Int) = 39 := by rw [r4]; rfl
    have hq := (quoN_le (s.data.toList.drop k) (by rw [hd]; simp)).2
    have hv : quoV s k = k + (quoN (s.data.toList.drop k)).1 := by unfold quoV; rw [if_pos r5]
    rw [hv] at Q1
    rw [r6] at hV
    simp only at hV
    generalize (quoN (s.data.toList.drop k)).1 = z at *
    have hne : ¬ ((k + z : Nat) : Int) = k := by omega
    have hne2 : (((k + z : Nat) : Int) == (k : Int)) = false := by simp; omega
    generalize k + z = m at *
    have HV := Lib.hid hV
    have HL1 := Lib.hid L1
    have HD1 := Lib.hid D1
    have HQ1 := Lib.hid Q1
    clear hs hd r1 r2 r3 r4 r5 r6 hV L1 D1 Q1 hv hq
    go_enter Tryz.func109, Tryz.ntmps109
    go_wp2_with fail
    refine (HL1.out _).mono ?_
    rintro e w1 ⟨rfl, rfl⟩
    go_wp2_with fail
    refine (HD1.out _).mono ?_
    rintro e w2 ⟨rfl, rfl⟩
    go_wp2_with fail
    refine (HQ1.out _).mono ?_
    rintro e w5 ⟨rfl, n, hn⟩
    have hb5 : Below w2.heap.size w2 w5 := by rw [hn]; exact ⟨rfl, rfl, rfl, Nat.le_refl _, fun _ _ => rfl⟩
    have HB5 := Lib.hid hb5
    clear hn hb5
    go_wp2
    go_ret2
    exact ⟨by rw [HV.out]; rfl, HB5.out⟩
  · have L1 : ∀ W, Calls Tryz.prog 153 #[.int .u8 34] W fun e w' => e = .returned (.bool false) ∧ w' = W := fun W => letter_any 34 W
    have D1 : ∀ W, Calls Tryz.prog 155 #[.int .u8 34] W fun e w' => e = .returned (.bool false) ∧ w' = W := fun W => digit_any 34 W
    have Q1 := fun W => refQuoted_any s k hk W hs
    have cc : ((s[k].toNat : Nat) : Int) = 34 := by rw [r4]; rfl
    have hq := (quoN_le (s.data.toList.drop k) (by rw [hd]; simp)).2
    have hv : quoV s k = k + (quoN (s.data.toList.drop k)).1 := by unfold quoV; rw [if_pos r5]
    rw [hv] at Q1
    rw [r6] at hV
    simp only at hV
    generalize (quoN (s.data.toList.drop k)).1 = z at *
    have hne : ¬ ((k + z : Nat) : Int) = k := by omega
    have hne2 : (((k + z : Nat) : Int) == (k : Int)) = false := by simp; omega
    generalize k + z = m at *
    have HV := Lib.hid hV
    have HL1 := Lib.hid L1
    have HD1 := Lib.hid D1
    have HQ1 := Lib.hid Q1
    clear hs hd r1 r2 r3 r4 r5 r6 hV L1 D1 Q1 hv hq
    go_enter Tryz.func109, Tryz.ntmps109
    go_wp2_with fail
    refine (HL1.out _).mono ?_
    rintro e w1 ⟨rfl, rfl⟩
    go_wp2_with fail
    refine (HD1.out _).mono ?_
    rintro e w2 ⟨rfl, rfl⟩
    go_wp2_with fail
    refine (HQ1.out _).mono ?_
    rintro e w5 ⟨rfl, n, hn⟩
    have hb5 : Below w2.heap.size w2 w5 := by rw [hn]; exact ⟨rfl, rfl, rfl, Nat.le_refl _, fun _ _ => rfl⟩
    have HB5 := Lib.hid hb5
    clear hn hb5
    go_wp2
    go_ret2
    exact ⟨by rw [HV.out]; rfl, HB5.out⟩
  · rcases r4 with r4 | r4
    · have L1 : ∀ W, Calls Tryz.prog 153 #[.int .u8 39] W fun e w' => e = .returned (.bool false) ∧ w' = W := fun W => letter_any 39 W
      have D1 : ∀ W, Calls Tryz.prog 155 #[.int .u8 39] W fun e w' => e = .returned (.bool false) ∧ w' = W := fun W => digit_any 39 W
      have Q1 := fun W => refQuoted_any s k hk W hs
      have cc : ((s[k].toNat : Nat) : Int) = 39 := by rw [r4]; rfl
      have hv : quoV s k = k := by unfold quoV; rw [if_neg (by rw [r5]; simp)]
      rw [hv] at Q1
      rw [r6] at hV
      have HV := Lib.hid hV
      have HL1 := Lib.hid L1
      have HD1 := Lib.hid D1
      have HQ1 := Lib.hid Q1
      clear hs hd r1 r2 r3 r5 r6 hV L1 D1 Q1 hv r4
      go_enter Tryz.func109, Tryz.ntmps109
      go_wp2_with fail
      refine (HL1.out _).mono ?_
      rintro e w1 ⟨rfl, rfl⟩
      go_wp2_with fail
      refine (HD1.out _).mono ?_
      rintro e w2 ⟨rfl, rfl⟩
      go_wp2_with fail
      refine (HQ1.out _).mono ?_
      rintro e w5 ⟨rfl, n, hn⟩
      have hb5 : Below w2.heap.size w2 w5 := by rw [hn]; exact ⟨rfl, rfl, rfl, Nat.le_refl _, fun _ _ => rfl⟩
      have HB5 := Lib.hid hb5
      clear hn hb5
      go_wp2
      go_ret2
      exact ⟨by rw [HV.out]; rfl, HB5.out⟩
    · have L1 : ∀ W, Calls Tryz.prog 153 #[.int .u8 34] W fun e w' => e = .returned (.bool false) ∧ w' = W := fun W => letter_any 34 W
      have D1 : ∀ W, Calls Tryz.prog 155 #[.int .u8 34] W fun e w' => e = .returned (.bool false) ∧ w' = W := fun W => digit_any 34 W
      have Q1 := fun W => refQuoted_any s k hk W hs
      have cc : ((s[k].toNat : Nat) : Int) = 34 := by rw [r4]; rfl
      have hv : quoV s k = k := by unfold quoV; rw [if_neg (by rw [r5]; simp)]
      rw [hv] at Q1
      rw [r6] at hV
      have HV := Lib.hid hV
      have HL1 := Lib.hid L1
      have HD1 := Lib.hid D1
      have HQ1 := Lib.hid Q1
      clear hs hd r1 r2 r3 r5 r6 hV L1 D1 Q1 hv r4
      go_enter Tryz.func109, Tryz.ntmps109
      go_wp2_with fail
      refine (HL1.out _).mono ?_
      rintro e w1 ⟨rfl, rfl⟩
      go_wp2_with fail
      refine (HD1.out _).mono ?_
      rintro e w2 ⟨rfl, rfl⟩
      go_wp2_with fail
      refine (HQ1.out _).mono ?_
      rintro e w5 ⟨rfl, n, hn⟩
      have hb5 : Below w2.heap.size w2 w5 := by rw [hn]; exact ⟨rfl, rfl, rfl, Nat.le_refl _, fun _ _ => rfl⟩
      have HB5 := Lib.hid hb5
      clear hn hb5
      go_wp2
      go_ret2
      exact ⟨by rw [HV.out]; rfl, HB5.out⟩
  · have S1 := fun W => refSign_any s k (by omega) W hs
    have hnl : signN (s.data.toList.drop k) ≤ 3 := by
      by_cases g : signN (s.data.toList.drop k) = 0
      · omega
      · obtain ⟨x, hx, e⟩ := signG_mem (s.data.toList.drop k) signsL g
        have e2 : signN (s.data.toList.drop k) = x.length := e
        rw [e2]
        exact (show ∀ x ∈ signsL, x.length ≤ 3 by decide) x hx
    have D2 := fun W => digit_any ((s.data.toList.drop (k + 1)).headD 0) W
    have BA := fun W => byteAt_any s (k + 1) W hs
    rw [show ((k + 1 : Nat) : Int) = k + 1 by omega, headN_d] at BA
    rw [r7] at hV
    simp only at hV
    have HV := Lib.hid hV
    have HNZ := Lib.hid r6
    have HNL := Lib.hid hnl
    have HS1 := Lib.hid S1
    rw [hd, begNum_d, Bool.or_eq_false_iff] at r3
    clear hV S1 hnl r6 r7
    by_cases e35 : s[k] = 35
    · have hf : f = false := by
        cases f with
        | false => rfl
        | true => exact absurd ⟨rfl, e35⟩ r1
      subst hf
      have L1 : ∀ W, Calls Tryz.prog 153 #[.int .u8 35] W fun e w' => e = .returned (.bool false) ∧ w' = W := fun W => letter_any 35 W
      have D1 : ∀ W, Calls Tryz.prog 155 #[.int .u8 35] W fun e w' => e = .returned (.bool false) ∧ w' = W := fun W => digit_any 35 W
      have cc : ((s[k].toNat : Nat) : Int) = 35 := by rw [e35]; rfl
      have HL1 := Lib.hid L1
      have HD1 := Lib.hid D1
      clear hs hd r1 r2 r3 r4 r5 L1 D1 D2 BA e35
      go_enter Tryz.func109, Tryz.ntmps109
      go_wp2_with fail
      refine (HL1.out _).mono ?_
      rintro e w1 ⟨rfl, rfl⟩
      go_wp2_with fail
      refine (HD1.out _).mono ?_
      rintro e w2 ⟨rfl, rfl⟩
      go_wp2_with fail
      refine (HS1.out _).mono ?_
      rintro e w5 ⟨⟨b, rfl, hbs⟩, hb5⟩
      have hem := emptyF b (by have := HNZ.out; omega)
      have HBS := Lib.hid hbs
      have HB5 := Lib.hid hb5
      have hbI : (b.size : Int) ≤ 140737488355328 := by have := HNL.out; omega
      clear hbs hb5
      go_wp2
      go_ret2
      exact ⟨by rw [HV.out, ← HBS.out]; rfl, HB5.out⟩
    · have c35 : ¬ ((s[k].toNat : Nat) : Int) = 35 := fun g => e35 (UInt8.toNat_inj.1 (show s[k].toNat = 35 by omega))
      by_cases e46 : s[k] = 46
      · have L1 : ∀ W, Calls Tryz.prog 153 #[.int .u8 46] W fun e w' => e = .returned (.bool false) ∧ w' = W := fun W => letter_any 46 W
        have D1 : ∀ W, Calls Tryz.prog 155 #[.int .u8 46] W fun e w' => e = .returned (.bool false) ∧ w' = W := fun W => digit_any 46 W
        have cc : ((s[k].toNat : Nat) : Int) = 46 := by rw [e46]; rfl
        have hdd : isDig ((s.data.toList.drop (k + 1)).headD 0) = false := by
          have := r3.2
          rw [e46, show decide (UInt8.toNat 46 = 46) = true by decide, Bool.true_and] at this
          exact this
        rw [hdd] at D2
        generalize (s.data.toList.drop (k + 1)).headD 0 = d at *
        have HL1 := Lib.hid L1
        have HD1 := Lib.hid D1
        have HD2 := Lib.hid D2
        have HBA := Lib.hid BA
        clear hs hd r1 r2 r3 r4 r5 L1 D1 D2 BA e35 e46 c35 hdd
        go_enter Tryz.func109, Tryz.ntmps109
        go_wp2_with fail
        refine (HL1.out _).mono ?_
        rintro e w1 ⟨rfl, rfl⟩
        go_wp2_with fail
        refine (HD1.out _).mono ?_
        rintro e w2 ⟨rfl, rfl⟩
        go_wp2_with fail
        refine (HBA.out _).mono ?_
        rintro e w3 ⟨rfl, rfl⟩
        go_wp2_with fail
        refine (HD2.out _).mono ?_
        rintro e w4 ⟨rfl, rfl⟩
        go_wp2_with fail
        refine (HS1.out _).mono ?_
        rintro e w5 ⟨⟨b, rfl, hbs⟩, hb5⟩
        have hem := emptyF b (by have := HNZ.out; omega)
        have HBS := Lib.hid hbs
        have HB5 := Lib.hid hb5
        have hbI : (b.size : Int) ≤ 140737488355328 := by have := HNL.out; omega
        clear hbs hb5
        go_wp2
        go_ret2
        exact ⟨by rw [HV.out, ← HBS.out]; rfl, HB5.out⟩
      · have c46 : ¬ ((s[k].toNat : Nat) : Int) = 46 := fun g => e46 (UInt8.toNat_inj.1 (show s[k].toNat = 46 by omega))
        have c39 : ¬ ((s[k].toNat : Nat) : Int) = 39 := fun g => r4 (UInt8.toNat_inj.1 (show s[k].toNat = 39 by omega))
        have c34 : ¬ ((s[k].toNat : Nat) : Int) = 34 := fun g => r5 (UInt8.toNat_inj.1 (show s[k].toNat = 34 by omega))
        have b39 : (((s[k].toNat : Nat) : Int) == 39) = false := by simpa using c39
        have b34 : (((s[k].toNat : Nat) : Int) == 34) = false := by simpa using c34
        have L1 := fun W => letter_any s[k] W
        have D1 := fun W => digit_any s[k] W
        rw [r2] at L1
        rw [r3.1] at D1
        have HL1 := Lib.hid L1
        have HD1 := Lib.hid D1
        clear hs hd r1 r2 r3 r4 r5 L1 D1 D2 BA e35 e46
        go_enter Tryz.func109, Tryz.ntmps109
        go_wp2_with fail
        refine (HL1.out _).mono ?_
        rintro e w1 ⟨rfl, rfl⟩
        go_wp2_with fail
        refine (HD1.out _).mono ?_
        rintro e w2 ⟨rfl, rfl⟩
        go_wp2_with fail
        refine (HS1.out _).mono ?_
        rintro e w5 ⟨⟨b, rfl, hbs⟩, hb5⟩
        have hem := emptyF b (by have := HNZ.out; omega)
        have HBS := Lib.hid hbs
        have HB5 := Lib.hid hb5
        have hbI : (b.size : Int) ≤ 140737488355328 := by have := HNL.out; omega
        clear hbs hb5
        go_wp2
        go_ret2
        exact ⟨by rw [HV.out, ← HBS.out]; rfl, HB5.out⟩
  · have S1 := fun W => refSign_any s k (by omega) W hs
    have hnl : signN (s.data.toList.drop k) ≤ 3 := by
      by_cases g : signN (s.data.toList.drop k) = 0
      · omega
      · obtain ⟨x, hx, e⟩ := signG_mem (s.data.toList.drop k) signsL g
        have e2 : signN (s.data.toList.drop k) = x.length := e
        rw [e2]
        exact (show ∀ x ∈ signsL, x.length ≤ 3 by decide) x hx
    have D2 := fun W => digit_any ((s.data.toList.drop (k + 1)).headD 0) W
    have BA := fun W => byteAt_any s (k + 1) W hs
    rw [show ((k + 1 : Nat) : Int) = k + 1 by omega, headN_d] at BA
    rw [r7] at hV
    simp only at hV
    have HV := Lib.hid hV
    have HNZ := Lib.hid r6
    have HNL := Lib.hid hnl
    have HS1 := Lib.hid S1
    rw [hd, begNum_d, Bool.or_eq_false_iff] at r3
    clear hV S1 hnl r6 r7
    by_cases e35 : s[k] = 35
    · have hf : f = false := by
        cases f with
        | false => rfl
        | true => exact absurd ⟨rfl, e35⟩ r1
      subst hf
      have L1 : ∀ W, Calls Tryz.prog 153 #[.int .u8 35] W fun e w' => e = .returned (.bool false) ∧ w' = W := fun W => letter_any 35 W
      have D1 : ∀ W, Calls Tryz.prog 155 #[.int .u8 35] W fun e w' => e = .returned (.bool false) ∧ w' = W := fun W => digit_any 35 W
      have cc : ((s[k].toNat : Nat) : Int) = 35 := by rw [e35]; rfl
      have HL1 := Lib.hid L1
      have HD1 := Lib.hid D1
      clear hs hd r1 r2 r3 r4 r5 L1 D1 D2 BA e35
      go_enter Tryz.func109, Tryz.ntmps109
      go_wp2_with fail
      refine (HL1.out _).mono ?_
      rintro e w1 ⟨rfl, rfl⟩
      go_wp2_with fail
      refine (HD1.out _).mono ?_
      rintro e w2 ⟨rfl, rfl⟩
      go_wp2_with fail
      refine (HS1.out _).mono ?_
      rintro e w5 ⟨⟨b, rfl, hbs⟩, hb5⟩
      have hem := emptyT b (by have := HNZ.out; omega)
      have HB5 := Lib.hid hb5
      clear hbs hb5
      go_wp2
      go_ret2
      exact ⟨by rw [HV.out]; rfl, HB5.out⟩
    · have c35 : ¬ ((s[k].toNat : Nat) : Int) = 35 := fun g => e35 (UInt8.toNat_inj.1 (show s[k].toNat = 35 by omega))
      by_cases e46 : s[k] = 46
      · have L1 : ∀ W, Calls Tryz.prog 153 #[.int .u8 46] W fun e w' => e = .returned (.bool false) ∧ w' = W := fun W => letter_any 46 W
        have D1 : ∀ W, Calls Tryz.prog 155 #[.int .u8 46] W fun e w' => e = .returned (.bool false) ∧ w' = W := fun W => digit_any 46 W
        have cc : ((s[k].toNat : Nat) : Int) = 46 := by rw [e46]; rfl
        have hdd : isDig ((s.data.toList.drop (k + 1)).headD 0) = false := by
          have := r3.2
          rw [e46, show decide (UInt8.toNat 46 = 46) = true by decide, Bool.true_and] at this
          exact this
        rw [hdd] at D2
        generalize (s.data.toList.drop (k + 1)).headD 0 = d at *
        have HL1 := Lib.hid L1
        have HD1 := Lib.hid D1
        have HD2 := Lib.hid D2
        have HBA := Lib.hid BA
        clear hs hd r1 r2 r3 r4 r5 L1 D1 D2 BA e35 e46 c35 hdd
        go_enter Tryz.func109, Tryz.ntmps109
        go_wp2_with fail
        refine (HL1.out _).mono ?_
        rintro e w1 ⟨rfl, rfl⟩
        go_wp2_with fail
        refine (HD1.out _).mono ?_
        rintro e w2 ⟨rfl, rfl⟩
        go_wp2_with fail
        refine (HBA.out _).mono ?_
        rintro e w3 ⟨rfl, rfl⟩
        go_wp2_with fail
        refine (HD2.out _).mono ?_
        rintro e w4 ⟨rfl, rfl⟩
        go_wp2_with fail
        refine (HS1.out _).mono ?_
        rintro e w5 ⟨⟨b, rfl, hbs⟩, hb5⟩
        have hem := emptyT b (by have := HNZ.out; omega)
        have HB5 := Lib.hid hb5
        clear hbs hb5
        go_wp2
        go_ret2
        exact ⟨by rw [HV.out]; rfl, HB5.out⟩
      · have c46 : ¬ ((s[k].toNat : Nat) : Int) = 46 := fun g => e46 (UInt8.toNat_inj.1 (show s[k].toNat = 46 by omega))
        have c39 : ¬ ((s[k].toNat : Nat) : Int) = 39 := fun g => r4 (UInt8.toNat_inj.1 (show s[k].toNat = 39 by omega))
        have c34 : ¬ ((s[k].toNat : Nat) : Int) = 34 := fun g => r5 (UInt8.toNat_inj.1 (show s[k].toNat = 34 by omega))
        have b39 : (((s[k].toNat : Nat) : Int) == 39) = false := by simpa using c39
        have b34 : (((s[k].toNat : Nat) : Int) == 34) = false := by simpa using c34
        have L1 := fun W => letter_any s[k] W
        have D1 := fun W => digit_any s[k] W
        rw [r2] at L1
        rw [r3.1] at D1
        have HL1 := Lib.hid L1
        have HD1 := Lib.hid D1
        clear hs hd r1 r2 r3 r4 r5 L1 D1 D2 BA e35 e46
        go_enter Tryz.func109, Tryz.ntmps109
        go_wp2_with fail
        refine (HL1.out _).mono ?_
        rintro e w1 ⟨rfl, rfl⟩
        go_wp2_with fail
        refine (HD1.out _).mono ?_
        rintro e w2 ⟨rfl, rfl⟩
        go_wp2_with fail
        refine (HS1.out _).mono ?_
        rintro e w5 ⟨⟨b, rfl, hbs⟩, hb5⟩
        have hem := emptyT b (by have := HNZ.out; omega)
        have HB5 := Lib.hid hb5
        clear hbs hb5
        go_wp2
        go_ret2
        exact ⟨by rw [HV.out]; rfl, HB5.out⟩

end Go.Proofs.YtjdpkhjoecfhlaaGreatDoor
