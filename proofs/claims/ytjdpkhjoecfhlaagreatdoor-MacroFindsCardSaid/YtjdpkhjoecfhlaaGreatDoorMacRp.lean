/- Macro: the document's params. Macro: the document's joined, of texts that are not empty. -/
import Derived.Test.YtjdpkhjoecfhlaaGreatDoorMacDf

namespace Go.Proofs.YtjdpkhjoecfhlaaGreatDoor
open Go.RowKit Go.Maps Go.Shelf

/-- what the document's params gives -/
def RParP (B n : Nat) (o : Option (List ByteArray × List Tk)) (e : Ending) (w' : World) : Prop :=
  match o with
  | none => e = .returned (.tuple #[.slice none 0 0, .int .i64 0, .bool false])
  | some (ps, r) => ∃ v, e = .returned (.tuple #[v, .int .i64 ((n - r.length : Nat) : Int), .bool true]) ∧ w'.ownsRow B 9 1 v ps.length (ps.map Value.string)
theorem drop_two {α : Type} (l : List α) (j : Nat) (h : j + 1 < l.length) : l.drop j = l[j]'(by omega) :: l[j + 1] :: l.drop (j + 2) := by
  rw [List.drop_eq_getElem_cons (by omega), List.drop_eq_getElem_cons h]

set_option maxHeartbeats 1000000 in
set_option maxRecDepth 100000 in
theorem refParams_any (g c : Nat) (l : List Tk) (i : Nat) (w : World) (hg : g < w.heap.size) (hl : l.length ≤ 30000) (hR : WAt w g 0 l) (hgood : ∀ t ∈ l, WordOk t) (hi : i + 1 ≤ l.length) :
    Calls Tryz.prog 88 #[.slice (some ⟨g, 0, none⟩) l.length c, .int .i64 i] w fun e w' => Below w.heap.size w w' ∧ RParP w.heap.size l.length (parL (l.drop (i + 1))) e w' := by
  obtain ⟨i0, hin, hz0, hz1, hz2⟩ := info_parts infoStrM
  have HG := Lib.hid hg
  have HL := Lib.hid hl
  have HGO := Lib.hid hgood
  have HK : Hid (∀ W, Below w.heap.size w W → WAt W g 0 l) := fun W hW => wat_below hR hg hW
  obtain ⟨n, hn⟩ : ∃ n, n = l.length := ⟨_, rfl⟩
  have HN := Lib.hid hn
  have hi2 : (i : Int) + 1 ≤ n := by omega
  have hi3 : i + 1 ≤ n := by omega
  have hn3 : n ≤ 30000 := by omega
  rw [← hn]
  clear hg hl hgood hn hi
  by_cases hs : ∃ h : i + 1 < l.length, l[i + 1].x.data.toList = [41]
  · obtain ⟨hlt, hx⟩ := hs
    have hO : parL (l.drop (i + 1)) = some ([], l.drop (i + 2)) := by
      rw [List.drop_eq_getElem_cons hlt]
      simp only [parL]
      rw [if_pos (by rw [oneOf_text _ (HGO.out _ (List.getElem_mem hlt)) closeB (.inr (.inl rfl)), hx]; rfl)]
    obtain ⟨c0, c1, c2, c3⟩ := hR (i + 1) hlt
    rw [Nat.zero_add] at c0 c1 c2 c3
    have q1 : ((i : Int) + 1) < (n : Int) := by rw [HN.out]; omega
    have q2 : 0 ≤ (i : Int) + 1 := by omega
    have q3 : ((i : Int) + 1).toNat = i + 1 := by omega
    have ex : (l[i + 1].x.toList == [41]) = true := by rw [Lib.toList_data, hx]; rfl
    have HO := Lib.hid hO
    have hlen : Hid ((n - (l.drop (i + 2)).length : Nat) = i + 2) := by unfold Hid; rw [List.length_drop, HN.out]; omega
    clear hO hx HGO
    generalize l[i + 1] = t at *
    have e41 : t.x = ⟨#[41]⟩ := by
      have : t.x.toList = [41] := by simpa using ex
      rw [Lib.toList_data] at this
      exact ByteArray.ext (Array.toList_inj.1 this)
    clear ex
    rw [e41] at c2
    go_enter Tryz.func88, Tryz.ntmps88
    go_wp2_with fail
    go_ret3
    refine ⟨Below.refl _ _, ?_⟩
    rw [HO.out]
    exact ⟨.slice none 0 0, by rw [hlen.out, show (i : Int) + 1 + 1 = ((i + 2 : Nat) : Int) by omega]; rfl, World.ownsRow_nil _ _ _ _⟩
  · have hP : parL (l.drop (i + 1)) = parG [] (l.drop (i + 1)) := by
      by_cases hlt : i + 1 < l.length
      · have hx : ¬ l[i + 1].x.data.toList = [41] := fun e => hs ⟨hlt, e⟩
        rw [List.drop_eq_getElem_cons hlt]
        simp only [parL]
        rw [if_neg (by rw [oneOf_text _ (HGO.out _ (List.getElem_mem hlt)) closeB (.inr (.inl rfl))]; exact fun h => hx (beq_iff_eq.1 h))]
      · rw [List.drop_eq_nil_of_le (by omega)]
        simp [parL, parG]
    have HP := Lib.hid hP
    obtain ⟨o, ho⟩ : ∃ o, o = parG [] (l.drop (i + 1)) := ⟨_, rfl⟩
    rw [hP, ← ho]
    have HO := Lib.hid ho
    have HS := Lib.hid hs
    have q2 : 0 ≤ (i : Int) + 1 := by omega
    have q3 : ((i : Int) + 1).toNat = i + 1 := by omega
    clear hP ho hs HP
    go_enter Tryz.func88, Tryz.ntmps88
    go_upto_region 3 with (fail)
    go_cut [1, 22] (fun v1 v22 wx => v1 = .int .i64 ((i + 1 : Nat) : Int) ∧ v22 = .bool false ∧ wx = w)
    case first =>
      by_cases hlt : i + 1 < l.length
      · have q1 : ((i : Int) + 1) < (n : Int) := by rw [HN.out]; omega
        obtain ⟨c0, c1, c2, c3⟩ := hR (i + 1) hlt
        rw [Nat.zero_add] at c0 c1 c2 c3
        have hx : ¬ l[i + 1].x.data.toList = [41] := fun e => HS.out ⟨hlt, e⟩
        have ex : (l[i + 1].x.toList == [41]) = false := by rw [Lib.toList_data]; simpa using hx
        generalize l[i + 1] = t at *
        clear hx hlt
        go_wp2_with fail
        go_meet
        exact ⟨by simp, rfl, rfl⟩
      · have q1 : ¬ ((i : Int) + 1) < (n : Int) := by rw [HN.out]; omega
        clear hlt
        go_wp2_with fail
        go_meet
        exact ⟨by simp, rfl, rfl⟩
    case rest =>
      obtain ⟨rfl, rfl, hw⟩ := hcut
      rw [hw]
      clear hw
      go_wp2_with fail
      go_loopw [1, 7] (fun v1 v7 wr => ∃ (j : Nat) (acc : List ByteArray), j ≤ n ∧ v1 = .int .i64 j ∧ Hid (acc.length + (n - j) ≤ 30000) ∧ Hid (wr.ownsRow w.heap.size 9 1 v7 acc.length (acc.map Value.string)) ∧ Hid (parG acc (l.drop j) = o) ∧ Hid (Below w.heap.size w wr) ∧ Hid (∃ A c, v7 = .slice A acc.length c)) (fun v1 _ _ => n - (intOf v1).toNat)
      case atStart => exact ⟨i + 1, [], by omega, rfl, (by unfold Hid; simp; omega), World.ownsRow_nil _ _ _ _, HO.out.symm, Below.refl _ _, ⟨none, 0, rfl⟩⟩
      case round =>
        obtain ⟨j, acc, hj, rfl, hal, hOw, hP, hB, hform⟩ := hrel
        obtain ⟨A, ca, rfl⟩ := hform.out
        clear hform hR q2 q3 hi2 hi3
        by_cases hlt : j + 1 < n
        · have hltl : j + 1 < l.length := by rw [← HN.out]; exact hlt
          have hdr := drop_two l j hltl
          have hW := HK.out _ hB.out
          obtain ⟨c0, c1, c2, c3⟩ := hW j (by omega)
          obtain ⟨d0, d1, d2, d3⟩ := hW (j + 1) hltl
          rw [Nat.zero_add] at c0 c1 c2 c3 d0 d1 d2 d3
          have gp := HGO.out l[j] (List.getElem_mem _)
          have gq := HGO.out l[j + 1] (List.getElem_mem _)
          have r1 : ((j : Int) + 1) < (n : Int) := by omega
          have r2 : 0 ≤ (j : Int) := by omega
          have r3 : (j : Int) < (n : Int) := by omega
          have r4 : 0 ≤ (j : Int) + 1 := by omega
          have r5 : ((j : Int) + 1).toNat = j + 1 := by omega
          have hP2 := hP.out
          rw [hdr] at hP2
          have hlen : Hid ((n - (l.drop (j + 2)).length : Nat) = j + 2) := by unfold Hid; rw [List.length_drop, HN.out]; omega
          have hnj : Hid (j + 2 ≤ n) := by unfold Hid; omega
          have hbs : w.heap.size ≤ wr.heap.size := hB.out.size
          obtain ⟨p, hpe⟩ : ∃ p, l[j] = p := ⟨_, rfl⟩
          obtain ⟨q, hqe⟩ : ∃ q, l[j + 1] = q := ⟨_, rfl⟩
          rw [hpe] at c0 c1 c2 c3 gp hP2
          rw [hqe] at gq hP2
          clear hpe d0 d1 d2 d3
          have HQE := Lib.hid hqe
          have HGP := Lib.hid gp
          have HGQ := Lib.hid gq
          have HLT := Lib.hid hltl
          have HP := Lib.hid hP2
          have hn30 : acc.length + 1 ≤ 30000 := by have := hal.out; omega
          clear hP hP2 hdr hW gp gq hqe
          obtain ⟨pk, pb, px, pa⟩ := p
          obtain ⟨qk, qb, qx, qa⟩ := q
          simp only at c0 c1 c2 c3
          by_cases hD : px.data.toList = [46, 46, 46]
          · obtain rfl : px = ⟨#[46, 46, 46]⟩ := ByteArray.ext (Array.toList_inj.1 hD)
            have hpk : pk = 6 := HGP.out.sign (.inr (.inr (.inr hD)))
            have HD1 : Hid (oneOf pk ⟨#[46, 46, 46]⟩ dotsB = true) := by unfold Hid; rw [hpk]; rfl
            clear hpk hD
            have HAPP : Hid (∀ (W w5 : World) (v' : Value), W = wr.alloc (.cells #[.string dotsB] 9) → w5.ownsRow w.heap.size 9 1 v' (acc.length + 1) (acc.map Value.string ++ [Value.string dotsB]) → W.grownBy w5 (Value.slice A acc.length ca).ownBlock → Hid (w5.ownsRow w.heap.size 9 1 v' (acc ++ [dotsB]).length ((acc ++ [dotsB]).map Value.string)) ∧ Hid (Below w.heap.size w w5)) := fun W w5 v' e h1 h2 => by
              subst e
              refine ⟨?_, ?_⟩
              · have e1 : (acc ++ [dotsB]).length = acc.length + 1 := by simp
                have e2 : (acc ++ [dotsB]).map Value.string = acc.map Value.string ++ [Value.string dotsB] := by simp
                unfold Hid
                rw [e1, e2]
                exact h1
              · have hbb : Below w.heap.size w (wr.alloc (.cells #[.string dotsB] 9)) := hB.out.alloc hB.out.size _
                refine hbb.trans ?_
                cases ho : (Value.slice A acc.length ca).ownBlock with
                | none => rw [ho] at h2; exact ⟨h2.os, h2.tape, h2.output, h2.size, fun i hi => h2.block i (by have := hbb.size; omega) (by simp)⟩
                | some q => rw [ho] at h2; exact below_grown h2 (hOw.out.lt q ho).1 hbb.size
            by_cases hC : qx.data.toList = [41]
            · obtain rfl : qx = ⟨#[41]⟩ := ByteArray.ext (Array.toList_inj.1 hC)
              have HC1 : Hid (oneOf qk ⟨#[41]⟩ closeB = true) := by unfold Hid; rw [oneOf_text ⟨qk, qb, ⟨#[41]⟩, qa⟩ HGQ.out closeB (.inr (.inl rfl))]; rfl
              have HR : Hid (o = some (acc ++ [dotsB], l.drop (j + 2))) := by unfold Hid; rw [← HP.out, parG, if_pos (.inr HD1.out), if_pos HC1.out]; rfl
              clear hC HP HC1 HD1
              go_wp2_with (at_builtin; refine wpList_append_own_at _ rfl (.tmp 46) (.tmp 52) 59 rfl w.heap.size 9 i0 _ 1 16 Tryz.underlying59 hin hz0 hz1 hz2 rfl (by decide) _ acc.length (acc.map Value.string) rfl (hOw.out.alloc _) ⟨wr.heap.size, 0, none⟩ 1 1 [Value.string ⟨#[46, 46, 46]⟩] rfl rfl (cell_one_new _ _ _) (by simp [Value.oneCell']) (by unfold maxLen; omega) (by omega) (by simp; omega) ?_; intro v' w5 hown' hgr _ hat; obtain ⟨g5, cap5, rfl, hgb5, hglt5⟩ := hown'.form (by omega); obtain ⟨hO5, hB5⟩ := HAPP.out _ _ _ rfl hown' hgr; obtain ⟨d0, d1, d2, d3⟩ := HK.out _ hB5.out (j + 1) HLT.out; rw [Nat.zero_add] at d0 d1 d2 d3; rw [HQE.out] at d0 d1 d2 d3; simp only at d0 d1 d2 d3; have hHi := Lib.hid hown'; have hgi := Lib.hid hgr; clear hown' hgr hat)
              go_ret3
              refine ⟨hB5.out, ?_⟩
              rw [HR.out]
              exact ⟨.slice (some ⟨g5, 0, none⟩) (acc.length + 1) cap5, by rw [hlen.out, show (j : Int) + 2 = ((j + 2 : Nat) : Int) by omega]; rfl, by have := hO5.out; rw [show (acc ++ [dotsB]).length = acc.length + 1 by simp] at this ⊢; exact this⟩
            · have ex : (qx.toList == [41]) = false := by rw [Lib.toList_data]; simpa using hC
              have HC1 : Hid (oneOf qk qx closeB = false) := by unfold Hid; rw [oneOf_text ⟨qk, qb, qx, qa⟩ HGQ.out closeB (.inr (.inl rfl))]; rw [beq_eq_false_iff_ne]; exact hC
              have HR : Hid (o = none) := by unfold Hid; rw [← HP.out, parG, if_pos (.inr HD1.out), if_neg (by rw [HC1.out]; decide), if_pos (.inl HD1.out)]
              clear hC HP HC1 HD1
              go_wp2_with (at_builtin; refine wpList_append_own_at _ rfl (.tmp 46) (.tmp 52) 59 rfl w.heap.size 9 i0 _ 1 16 Tryz.underlying59 hin hz0 hz1 hz2 rfl (by decide) _ acc.length (acc.map Value.string) rfl (hOw.out.alloc _) ⟨wr.heap.size, 0, none⟩ 1 1 [Value.string ⟨#[46, 46, 46]⟩] rfl rfl (cell_one_new _ _ _) (by simp [Value.oneCell']) (by unfold maxLen; omega) (by omega) (by simp; omega) ?_; intro v' w5 hown' hgr _ hat; obtain ⟨g5, cap5, rfl, hgb5, hglt5⟩ := hown'.form (by omega); obtain ⟨hO5, hB5⟩ := HAPP.out _ _ _ rfl hown' hgr; obtain ⟨d0, d1, d2, d3⟩ := HK.out _ hB5.out (j + 1) HLT.out; rw [Nat.zero_add] at d0 d1 d2 d3; rw [HQE.out] at d0 d1 d2 d3; simp only at d0 d1 d2 d3; have hHi := Lib.hid hown'; have hgi := Lib.hid hgr; clear hown' hgr hat)
              go_ret3
              exact ⟨hB5.out, by rw [HR.out]; rfl⟩
          · have ed : (px.toList == [46, 46, 46]) = false := by rw [Lib.toList_data]; simpa using hD
            have HD1 : Hid (oneOf pk px dotsB = false) := by unfold Hid; rw [oneOf_text ⟨pk, pb, px, pa⟩ HGP.out dotsB (.inr (.inr (.inr rfl)))]; rw [beq_eq_false_iff_ne]; exact hD
            clear hD
            by_cases hk : pk = 1
            · subst hk
              have HAPP : Hid (∀ (W w5 : World) (v' : Value), W = wr.alloc (.cells #[.string px] 9) → w5.ownsRow w.heap.size 9 1 v' (acc.length + 1) (acc.map Value.string ++ [Value.string px]) → W.grownBy w5 (Value.slice A acc.length ca).ownBlock → Hid (w5.ownsRow w.heap.size 9 1 v' (acc ++ [px]).length ((acc ++ [px]).map Value.string)) ∧ Hid (Below w.heap.size w w5)) := fun W w5 v' e h1 h2 => by
                subst e
                refine ⟨?_, ?_⟩
                · have e1 : (acc ++ [px]).length = acc.length + 1 := by simp
                  have e2 : (acc ++ [px]).map Value.string = acc.map Value.string ++ [Value.string px] := by simp
                  unfold Hid
                  rw [e1, e2]
                  exact h1
                · have hbb : Below w.heap.size w (wr.alloc (.cells #[.string px] 9)) := hB.out.alloc hB.out.size _
                  refine hbb.trans ?_
                  cases ho : (Value.slice A acc.length ca).ownBlock with
                  | none => rw [ho] at h2; exact ⟨h2.os, h2.tape, h2.output, h2.size, fun i hi => h2.block i (by have := hbb.size; omega) (by simp)⟩
                  | some q => rw [ho] at h2; exact below_grown h2 (hOw.out.lt q ho).1 hbb.size
              by_cases hC : qx.data.toList = [41]
              · obtain rfl : qx = ⟨#[41]⟩ := ByteArray.ext (Array.toList_inj.1 hC)
                have HC1 : Hid (oneOf qk ⟨#[41]⟩ closeB = true) := by unfold Hid; rw [oneOf_text ⟨qk, qb, ⟨#[41]⟩, qa⟩ HGQ.out closeB (.inr (.inl rfl))]; rfl
                have HR : Hid (o = some (acc ++ [px], l.drop (j + 2))) := by unfold Hid; rw [← HP.out, parG, if_pos (.inl rfl), if_pos HC1.out]
                clear hC HP HC1 HD1
                go_wp2_with (at_builtin; refine wpList_append_own_at _ rfl (.tmp 46) (.tmp 52) 59 rfl w.heap.size 9 i0 _ 1 16 Tryz.underlying59 hin hz0 hz1 hz2 rfl (by decide) _ acc.length (acc.map Value.string) rfl (hOw.out.alloc _) ⟨wr.heap.size, 0, none⟩ 1 1 [Value.string px] rfl rfl (cell_one_new _ _ _) (by simp [Value.oneCell']) (by unfold maxLen; omega) (by omega) (by simp; omega) ?_; intro v' w5 hown' hgr _ hat; obtain ⟨g5, cap5, rfl, hgb5, hglt5⟩ := hown'.form (by omega); obtain ⟨hO5, hB5⟩ := HAPP.out _ _ _ rfl hown' hgr; obtain ⟨d0, d1, d2, d3⟩ := HK.out _ hB5.out (j + 1) HLT.out; rw [Nat.zero_add] at d0 d1 d2 d3; rw [HQE.out] at d0 d1 d2 d3; simp only at d0 d1 d2 d3; have hHi := Lib.hid hown'; have hgi := Lib.hid hgr; clear hown' hgr hat)
                go_ret3
                refine ⟨hB5.out, ?_⟩
                rw [HR.out]
                exact ⟨.slice (some ⟨g5, 0, none⟩) (acc.length + 1) cap5, by rw [hlen.out, show (j : Int) + 2 = ((j + 2 : Nat) : Int) by omega]; rfl, by have := hO5.out; rw [show (acc ++ [px]).length = acc.length + 1 by simp] at this ⊢; exact this⟩
              · have ex : (qx.toList == [41]) = false := by rw [Lib.toList_data]; simpa using hC
                have HC1 : Hid (oneOf qk qx closeB = false) := by unfold Hid; rw [oneOf_text ⟨qk, qb, qx, qa⟩ HGQ.out closeB (.inr (.inl rfl))]; rw [beq_eq_false_iff_ne]; exact hC
                clear hC
                by_cases hM : qx.data.toList = [44]
                · obtain rfl : qx = ⟨#[44]⟩ := ByteArray.ext (Array.toList_inj.1 hM)
                  have HM1 : Hid (oneOf qk ⟨#[44]⟩ commaB = true) := by unfold Hid; rw [oneOf_text ⟨qk, qb, ⟨#[44]⟩, qa⟩ HGQ.out commaB (.inr (.inr (.inl rfl)))]; rfl
                  have HR : Hid (parG (acc ++ [px]) (l.drop (j + 2)) = o) := by unfold Hid; rw [← HP.out, parG, if_pos (.inl rfl), if_neg (by rw [HC1.out]; decide), if_neg (by rw [HD1.out, HM1.out]; decide)]
                  clear hM HP HC1 HD1 HM1 ex
                  go_wp2_with (at_builtin; refine wpList_append_own_at _ rfl (.tmp 46) (.tmp 52) 59 rfl w.heap.size 9 i0 _ 1 16 Tryz.underlying59 hin hz0 hz1 hz2 rfl (by decide) _ acc.length (acc.map Value.string) rfl (hOw.out.alloc _) ⟨wr.heap.size, 0, none⟩ 1 1 [Value.string px] rfl rfl (cell_one_new _ _ _) (by simp [Value.oneCell']) (by unfold maxLen; omega) (by omega) (by simp; omega) ?_; intro v' w5 hown' hgr _ hat; obtain ⟨g5, cap5, rfl, hgb5, hglt5⟩ := hown'.form (by omega); obtain ⟨hO5, hB5⟩ := HAPP.out _ _ _ rfl hown' hgr; obtain ⟨d0, d1, d2, d3⟩ := HK.out _ hB5.out (j + 1) HLT.out; rw [Nat.zero_add] at d0 d1 d2 d3; rw [HQE.out] at d0 d1 d2 d3; simp only at d0 d1 d2 d3; have hHi := Lib.hid hown'; have hgi := Lib.hid hgr; clear hown' hgr hat)
                  go_roundw
                  case rel => exact ⟨j + 2, acc ++ [px], hnj.out, by go_num, by unfold Hid; have h1 := hal.out; have h2 := hnj.out; rw [List.length_append, List.length_singleton]; omega, by have := hO5.out; rw [show (acc ++ [px]).length = acc.length + 1 by simp] at this ⊢; exact this, HR.out, hB5.out, ⟨some ⟨g5, 0, none⟩, cap5, by simp⟩⟩
                  case measure => have h2 := hnj.out; simp [intOf]; omega
                · have em : (qx.toList == [44]) = false := by rw [Lib.toList_data]; simpa using hM
                  have HM1 : Hid (oneOf qk qx commaB = false) := by unfold Hid; rw [oneOf_text ⟨qk, qb, qx, qa⟩ HGQ.out commaB (.inr (.inr (.inl rfl)))]; rw [beq_eq_false_iff_ne]; exact hM
                  have HR : Hid (o = none) := by unfold Hid; rw [← HP.out, parG, if_pos (.inl rfl), if_neg (by rw [HC1.out]; decide), if_pos (.inr (by rw [HM1.out]; decide))]
                  clear hM HP HC1 HD1 HM1
                  go_wp2_with (at_builtin; refine wpList_append_own_at _ rfl (.tmp 46) (.tmp 52) 59 rfl w.heap.size 9 i0 _ 1 16 Tryz.underlying59 hin hz0 hz1 hz2 rfl (by decide) _ acc.length (acc.map Value.string) rfl (hOw.out.alloc _) ⟨wr.heap.size, 0, none⟩ 1 1 [Value.string px] rfl rfl (cell_one_new _ _ _) (by simp [Value.oneCell']) (by unfold maxLen; omega) (by omega) (by simp; omega) ?_; intro v' w5 hown' hgr _ hat; obtain ⟨g5, cap5, rfl, hgb5, hglt5⟩ := hown'.form (by omega); obtain ⟨hO5, hB5⟩ := HAPP.out _ _ _ rfl hown' hgr; obtain ⟨d0, d1, d2, d3⟩ := HK.out _ hB5.out (j + 1) HLT.out; rw [Nat.zero_add] at d0 d1 d2 d3; rw [HQE.out] at d0 d1 d2 d3; simp only at d0 d1 d2 d3; have hHi := Lib.hid hown'; have hgi := Lib.hid hgr; clear hown' hgr hat)
                  go_ret3
                  exact ⟨hB5.out, by rw [HR.out]; rfl⟩
            · have p1 : ¬ (pk : Int) = 1 := by omega
              have p2 : ((pk : Int) == 1) = false := by simpa using p1
              have p3 : ((pk : Int) != 1) = true := by rw [bne, p2]; rfl
              have HR : Hid (o = none) := by unfold Hid; rw [← HP.out, parG, if_neg (by rw [HD1.out]; simp [hk])]
              clear hk HP HD1
              go_wp2_with fail
              go_ret3
              exact ⟨hB.out, by rw [HR.out]; rfl⟩
        · have r1 : ¬ ((j : Int) + 1) < (n : Int) := by omega
          have hnone : Hid (o = none) := by
            unfold Hid
            rw [← hP.out]
            have hl2 : (l.drop j).length ≤ 1 := by rw [List.length_drop, ← HN.out]; omega
            match hm : l.drop j, hl2 with
            | [], _ => simp [parG]
            | [_], _ => simp [parG]
            | _ :: _ :: _, h => simp at h
          clear hP
          go_wp2_with fail
          go_ret3
          exact ⟨hB.out, by rw [hnone.out]; rfl⟩

end Go.Proofs.YtjdpkhjoecfhlaaGreatDoor

namespace Go.Proofs.YtjdpkhjoecfhlaaGreatDoor
open Go.RowKit Go.Maps Go.Shelf

theorem join_snoc (sep x : List UInt8) : ∀ l : List (List UInt8), l ≠ [] → Lib.join (l ++ [x]) sep = Lib.join l sep ++ sep ++ x
  | [], h => absurd rfl h
  | [y], _ => by simp [Lib.join, List.intercalate]
  | y :: z :: r, _ => by
    have ih := join_snoc sep x (z :: r) (by simp)
    have e : ∀ m : List (List UInt8), m ≠ [] → Lib.join (y :: m) sep = y ++ sep ++ Lib.join m sep := fun m hm => by
      cases m with
      | nil => exact absurd rfl hm
      | cons a m => simp [Lib.join, List.intercalate]
    rw [show y :: z :: r ++ [x] = y :: ((z :: r) ++ [x]) from rfl, e _ (by simp), ih, e (z :: r) (by simp)]
    simp [List.append_assoc]
theorem join_ne (sep : List UInt8) (y : List UInt8) (r : List (List UInt8)) (h : y ≠ []) : Lib.join (y :: r) sep ≠ [] := by
  cases r with
  | nil => rw [Lib.join_one]; exact h
  | cons a r =>
    have e : Lib.join (y :: a :: r) sep = y ++ sep ++ Lib.join (a :: r) sep := by simp [Lib.join, List.intercalate]
    rw [e]
    simp [h]
def joinB (l : List ByteArray) : ByteArray := ⟨(Lib.join (l.map (·.data.toList)) [32]).toArray⟩
theorem joinB_size (l : List ByteArray) (M : Nat) (h : ∀ x ∈ l, x.size ≤ M) : (joinB l).size ≤ l.length * (M + 1) := by
  have := join_len [32] M (l.map (·.data.toList)) fun y hy => by
    obtain ⟨x, hx, rfl⟩ := List.mem_map.1 hy
    simpa using h x hx
  rw [List.length_map] at this
  show (Lib.join (l.map (·.data.toList)) [32]).toArray.size ≤ _
  simpa using this
theorem joinB_first (l : List ByteArray) (h : 0 < l.length) : (⟨#[]⟩ : ByteArray) ++ l[0] = joinB (l.take 1) := by
  cases l with
  | nil => simp at h
  | cons x l =>
    refine ByteArray.ext (Array.toList_inj.1 ?_)
    simp [joinB, Lib.join_one]
theorem joinB_next (l : List ByteArray) (k : Nat) (hk : k < l.length) (h0 : 0 < k) : joinB (l.take k) ++ ⟨#[32]⟩ ++ l[k] = joinB (l.take (k + 1)) := by
  refine ByteArray.ext (Array.toList_inj.1 ?_)
  rw [List.take_succ_eq_append_getElem hk]
  unfold joinB
  rw [List.map_append, List.map_singleton, join_snoc _ _ _ (by intro e; have := congrArg List.length e; rw [List.length_map, List.length_take, List.length_nil] at this; omega)]
  simp
theorem joinB_ne (l : List ByteArray) (k : Nat) (hk : k ≤ l.length) (h0 : 0 < k) (h : ∀ x ∈ l, x.data.toList ≠ []) : (joinB (l.take k)).data.toList ≠ [] := by
  cases l with
  | nil => simp at hk; omega
  | cons x l =>
    obtain ⟨j, rfl⟩ : ∃ j, k = j + 1 := ⟨k - 1, by omega⟩
    have := join_ne [32] x.data.toList ((l.take j).map (·.data.toList)) (h x (by simp))
    simpa [joinB] using this

set_option maxHeartbeats 1000000 in
set_option maxRecDepth 100000 in
theorem joined_any (A : Option Addr) (c : Nat) (l : List ByteArray) (w : World) (hl : l.length ≤ 30000) (hR : Rd w w.heap.size A (l.map Value.string)) (hne : ∀ x ∈ l, x.data.toList ≠ []) (hsz : ∀ x ∈ l, x.size ≤ 20001) :
    Calls Tryz.prog 89 #[.slice A l.length c] w fun e w' => e = .returned (.string (joinB l)) ∧ w' = w := by
  have HR := Lib.hid hR
  have HL := Lib.hid hl
  have HNE := Lib.hid hne
  have HSZ := Lib.hid hsz
  obtain ⟨n, hn⟩ : ∃ n, n = l.length := ⟨_, rfl⟩
  rw [← hn]
  have HN := Lib.hid hn
  have hn3 : n ≤ 30000 := by omega
  clear hR hl hne hsz hn
  go_enter Tryz.func89, Tryz.ntmps89
  go_wp2_with fail
  go_loop [3, 4] (fun v3 v4 => ∃ (k : Nat) (s : ByteArray), k ≤ n ∧ v4 = .int .i64 k ∧ v3 = .string s ∧ Hid (s = joinB (l.take k))) (fun _ v4 => n - (intOf v4).toNat)
  case atStart => exact ⟨0, ⟨#[]⟩, Nat.zero_le _, rfl, rfl, by unfold Hid; simp [joinB, Lib.join]⟩
  case round =>
    obtain ⟨k, s, hk, rfl, rfl, hs⟩ := hrel
    by_cases hlt : k < n
    · have hkl : k < l.length := by rw [← HN.out]; exact hlt
      have hltI : (k : Int) < (n : Int) := by omega
      obtain ⟨x, hx⟩ : ∃ x, x = l[k] := ⟨_, rfl⟩
      obtain ⟨b, off, e, hB, hc⟩ := HR.out (by simp; omega)
      have c0 : w.cell? ⟨b, off + k, none⟩ = some (.string x) := hc k _ (by rw [List.getElem?_map, List.getElem?_eq_getElem hkl, hx]; rfl)
      subst e
      have h1 : (joinB (l.take k)).size ≤ (l.take k).length * (20001 + 1) := joinB_size _ _ fun y hy => HSZ.out y (List.mem_of_mem_take hy)
      have h2 : (l.take k).length * (20001 + 1) ≤ 30000 * 20002 := Nat.mul_le_mul (by rw [List.length_take]; omega) (by omega)
      have hss : s.size ≤ 600060000 := by rw [hs.out]; omega
      have hxs : x.size ≤ 20001 := by rw [hx]; exact HSZ.out _ (List.getElem_mem _)
      have hxe : x.toList.isEmpty = false := by
        have := HNE.out _ (List.getElem_mem hkl)
        rw [← hx] at this
        rw [Lib.toList_data]
        simpa using this
      have b1 : (s.size : Int) + 1 ≤ 9223372036854775807 := by omega
      have b2 : (s.size : Int) + 1 + x.size ≤ 9223372036854775807 := by omega
      have b3 : (s.size : Int) + x.size ≤ 9223372036854775807 := by omega
      have b4 : s.size + 1 ≤ 9223372036854775807 := by omega
      have b5 : s.size + 1 + x.size ≤ 9223372036854775807 := by omega
      have b6 : s.size + x.size ≤ 9223372036854775807 := by omega
      have HX := Lib.hid hx
      clear hc h1 h2 hx
      by_cases h0 : k = 0
      · subst h0
        rw [Nat.add_zero] at c0
        have hse : s.toList.isEmpty = true := by rw [hs.out, Lib.toList_data]; simp [joinB, Lib.join]
        have hs0 : s = ⟨#[]⟩ := by rw [hs.out]; simp [joinB, Lib.join]
        have HJ : Hid ((⟨#[]⟩ : ByteArray) ++ x = joinB (l.take 1)) := by unfold Hid; rw [HX.out]; exact joinB_first l hkl
        subst hs0
        clear hs hse HX hkl
        go_wp2_with fail
        go_round
        case rel => exact ⟨1, _, by omega, by go_num, rfl, HJ.out⟩
        case measure => simp [intOf]; omega
      · have hse : s.toList.isEmpty = false := by
          rw [hs.out, Lib.toList_data]
          have := joinB_ne l k (by omega) (by omega) HNE.out
          simpa using this
        have HJ : Hid (s ++ ⟨#[32]⟩ ++ x = joinB (l.take (k + 1))) := by unfold Hid; rw [hs.out, HX.out]; exact joinB_next l k hkl (by omega)
        clear hs HX hkl h0
        go_wp2_with fail
        go_round
        case rel => exact ⟨k + 1, _, by omega, by go_num, rfl, HJ.out⟩
        case measure => simp [intOf]; omega
    · obtain rfl : k = n := by omega
      have HE : Hid (s = joinB l) := by unfold Hid; rw [hs.out, List.take_of_length_le (by rw [← HN.out]; exact Nat.le_refl _)]
      clear hs
      go_wp2_with fail
      go_ret
      exact ⟨by rw [HE.out]; rfl, rfl⟩

end Go.Proofs.YtjdpkhjoecfhlaaGreatDoor
