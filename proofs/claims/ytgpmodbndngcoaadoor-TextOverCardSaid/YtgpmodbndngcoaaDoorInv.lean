/- Plain: the inverse of edits; edits that are joined; what is behind edits. -/
import Derived.Test.YtgpmodbndngcoaaDoorApply
import Derived.Test.YtgpmodbndngcoaaDoorJoinF
namespace Go.Proofs.YtgpmodbndngcoaaDoor
open Go.RowKit Go.Sort

/-- the inverse of edits in order, one for each -/
def invF (s : ByteArray) : Int → List Ed → List Ed
  | _, [] => []
  | m, x :: l => ⟨x.f + m, x.f + m + x.s.size, s.extract x.f.toNat x.t.toNat⟩ :: invF s (m + (x.s.size - (x.t - x.f))) l

theorem invF_length (s : ByteArray) : ∀ (l : List Ed) (m : Int), (invF s m l).length = l.length
  | [], _ => rfl
  | x :: l, m => by simp [invF, invF_length s l]


theorem madeF_pts (s : List UInt8) (e : Int) (r : List Ed) : ∀ p : List Ed, (∀ y ∈ p, y.f = e ∧ y.t = e) → madeF s e.toNat (p ++ r) = textsL p ++ madeF s e.toNat r
  | [], _ => by simp [textsL]
  | y :: p, h => by
    obtain ⟨h1, h2⟩ := h y (by simp)
    have ih := madeF_pts s e r p (fun z hz => h z (by simp [hz]))
    simp only [List.cons_append, madeF, h1, h2, Nat.sub_self, List.take_zero, List.nil_append]
    rw [ih, textsL_cons, List.append_assoc]

theorem chain_pts (n : Nat) (e : Int) (r : List Ed) : ∀ p : List Ed, (∀ y ∈ p, y.f = e ∧ y.t = e) → Chain n e.toNat (p ++ r) → Chain n e.toNat r
  | [], _, h => h
  | y :: p, h, hc => by
    obtain ⟨h1, h2⟩ := h y (by simp)
    obtain ⟨_, _, _, h4⟩ := hc
    rw [h2] at h4
    exact chain_pts n e r p (fun z hz => h z (by simp [hz])) h4

theorem gsum_append (a b : List Ed) : gsum (a ++ b) = gsum a + gsum b := by
  induction a with
  | nil => simp [gsum]
  | cons x a ih => simp only [List.cons_append, gsum, ih]; omega

/-- no two that stand side by side have no bytes and one place -/
def Str : List Ed → Prop
  | [] => True
  | [_] => True
  | x :: y :: l => sameP x y = false ∧ Str (y :: l)

theorem str_cons {x : Ed} {l : List Ed} (h : ∀ y l', l = y :: l' → sameP x y = false) (hl : Str l) : Str (x :: l) := by
  cases l with
  | nil => trivial
  | cons y l => exact ⟨h y l rfl, hl⟩

theorem dropWhile_head {x y : Ed} : ∀ {l l' : List Ed}, l.dropWhile (sameP x) = y :: l' → sameP x y = false
  | [], _, h => by simp at h
  | z :: l, l', h => by
    rw [List.dropWhile_cons] at h
    by_cases g : sameP x z = true
    · rw [if_pos g] at h; exact dropWhile_head h
    · rw [if_neg g] at h
      injection h with h1 _
      subst h1
      simpa using g

theorem joinF_head {l l' : List Ed} {y : Ed} (h : joinF l = y :: l') : ∃ z m, l = z :: m ∧ y.f = z.f ∧ y.t = z.t := by
  cases l with
  | nil => rw [joinF_nil] at h; cases h
  | cons z m =>
    rw [joinF_cons] at h
    injection h with h1 _
    subst h1
    exact ⟨z, m, rfl, rfl, rfl⟩

theorem joinF_str : ∀ (n : Nat) (l : List Ed), l.length ≤ n → Str (joinF l)
  | _, [], _ => by rw [joinF_nil]; trivial
  | 0, x :: l, h => by simp at h
  | n + 1, x :: l, h => by
    rw [joinF_cons]
    have h1 := drop_le x l
    simp only [List.length_cons] at h
    refine str_cons (fun y l' e => ?_) (joinF_str n _ (by omega))
    obtain ⟨z, m, e2, f1, f2⟩ := joinF_head e
    have := dropWhile_head e2
    rw [← this]
    simp [sameP, f1, f2]

theorem toL_size (l : List UInt8) : (ByteArray.mk l.toArray).size = l.length := by simp [ByteArray.size]
theorem size_toL (s : ByteArray) : s.data.toList.length = s.size := by simp

theorem joinF_same (s : List UInt8) (n : Nat) : ∀ (N : Nat) (l : List Ed) (d : Nat), l.length ≤ N → Chain n d l → Chain n d (joinF l) ∧ madeF s d (joinF l) = madeF s d l
  | _, [], d, _, _ => by rw [joinF_nil]; exact ⟨trivial, rfl⟩
  | 0, x :: l, _, h, _ => by simp at h
  | N + 1, x :: l, d, h, hc => by
    rw [joinF_cons]
    have h1 := drop_le x l
    simp only [List.length_cons] at h
    obtain ⟨c1, c2, c3, c4⟩ := hc
    have hsplit : l.takeWhile (sameP x) ++ l.dropWhile (sameP x) = l := List.takeWhile_append_dropWhile
    have hp : ∀ y ∈ l.takeWhile (sameP x), y.f = x.t ∧ y.t = x.t := fun y hy => by
      have := sameP_iff.1 (mem_takeWhile hy)
      omega
    rw [← hsplit] at c4
    obtain ⟨i1, i2⟩ := joinF_same s n N (l.dropWhile (sameP x)) x.t.toNat (by omega) (chain_pts n x.t _ _ hp c4)
    refine ⟨⟨c1, c2, c3, i1⟩, ?_⟩
    simp only [madeF, i2]
    have e := madeF_pts s x.t (l.dropWhile (sameP x)) _ hp
    rw [hsplit] at e
    rw [e, textsL_cons]
    simp only [List.append_assoc]

theorem chain_sorted (n : Nat) : ∀ (l : List Ed) (d : Nat), Chain n d l → Str l → l.Pairwise ltE
  | [], _, _, _ => List.Pairwise.nil
  | [x], _, _, _ => by simp
  | x :: y :: l, d, hc, hs => by
    obtain ⟨c1, c2, c3, c4⟩ := hc
    have ih := chain_sorted n (y :: l) _ c4 hs.2
    obtain ⟨d1, d2, d3, d4⟩ := c4
    have hn := hs.1
    have hxy : ltE x y := by
      unfold ltE
      by_cases g : x.f < y.f
      · exact .inl g
      · refine .inr ⟨by omega, .inl ?_⟩
        have : ¬ (x.f = x.t ∧ y.f = x.f ∧ y.t = x.t) := fun e => by rw [sameP_iff.2 e] at hn; cases hn
        omega
    rw [List.pairwise_cons]
    refine ⟨fun z hz => ?_, ih⟩
    rw [List.mem_cons] at hz
    rcases hz with rfl | hz
    · exact hxy
    · exact ltE_trans hxy ((List.pairwise_cons.1 ih).1 z hz)

theorem chain_clash (n : Nat) : ∀ (l : List Ed) (d : Nat) (e p : Int), Chain n d l → Str l → e ≤ d → p ≤ d → (∀ x l', l = x :: l' → ¬ (x.f = x.t ∧ x.f = p)) → clashGo l e p = false
  | [], _, _, _, _, _, _, _, _ => rfl
  | x :: l, d, e, p, hc, hs, he, hp, hh => by
    obtain ⟨c1, c2, c3, c4⟩ := hc
    have hx := hh x l rfl
    have hsl : Str l := by
      cases l with
      | nil => trivial
      | cons y l => exact hs.2
    unfold clashGo
    rw [if_neg (by omega)]
    by_cases g : x.f = x.t
    · rw [if_pos g]
      refine chain_clash n l _ e x.f c4 hsl (by omega) (by omega) ?_
      rintro y l' rfl
      have hn := hs.1
      intro k
      rw [sameP_iff.2 ⟨g, by omega, by omega⟩] at hn
      cases hn
    · rw [if_neg g]
      refine chain_clash n l _ x.t p c4 hsl (by omega) (by omega) ?_
      rintro y l' rfl
      obtain ⟨d1, d2, d3, d4⟩ := c4
      omega

theorem chain_range (n : Nat) : ∀ (l : List Ed) (d : Nat), Chain n d l → ∀ x ∈ l, rangeOk n x
  | [], _, _, _, h => by simp at h
  | x :: l, d, hc, y, hy => by
    obtain ⟨c1, c2, c3, c4⟩ := hc
    rw [List.mem_cons] at hy
    rcases hy with rfl | hy
    · exact ⟨by omega, c2, c3⟩
    · exact chain_range n l _ c4 y hy

/-- edits one behind the other are fine, and in order as they are -/
theorem fine_chain {n : Nat} {l : List Ed} (hn : n ≤ 200000) (hl : l.length ≤ 10000) (hc : Chain n 0 l) (hs : Str l) : fineF n l = 0 ∧ ordF l = l := by
  have ho : ordF l = l := (ordF_of_sorted (chain_sorted n l 0 hc hs) (r := l) (fun _ => Iff.rfl)).symm
  refine ⟨?_, ho⟩
  unfold fineF
  rw [if_neg (by omega), if_neg (fun g => g (chain_range n l 0 hc)), ho, chain_clash n l 0 0 (-1) hc hs (by omega) (by omega) (fun x l' e => by subst e; obtain ⟨c1, _⟩ := hc; omega)]
  rfl

theorem inv_made (s : ByteArray) : ∀ (l : List Ed) (d : Nat) (m : Int) (pre : List UInt8), d ≤ s.size → Chain s.size d l → (pre.length : Int) = d + m →
    Chain (pre ++ madeF s.data.toList d l).length pre.length (invF s m l) ∧ madeF (pre ++ madeF s.data.toList d l) pre.length (invF s m l) = s.data.toList.drop d
  | [], d, m, pre, hd, _, hp => by simp [invF, madeF, Chain]
  | x :: l, d, m, pre, hd, hc, hp => by
    obtain ⟨c1, c2, c3, c4⟩ := hc
    have hsz := size_toL s
    have hxs := size_toL x.s
    have hlen1 : ((s.data.toList.drop d).take (x.f.toNat - d)).length = x.f.toNat - d := by rw [List.length_take, List.length_drop, hsz]; omega
    obtain ⟨i1, i2⟩ := inv_made s l x.t.toNat (m + (x.s.size - (x.t - x.f))) (pre ++ ((s.data.toList.drop d).take (x.f.toNat - d) ++ x.s.data.toList)) (by omega) c4 (by
      simp only [List.length_append, hlen1, hxs]; omega)
    have hT : pre ++ madeF s.data.toList d (x :: l) = pre ++ ((s.data.toList.drop d).take (x.f.toNat - d) ++ x.s.data.toList) ++ madeF s.data.toList x.t.toNat l := by
      simp only [madeF, List.append_assoc]
    have hpl : (pre ++ ((s.data.toList.drop d).take (x.f.toNat - d) ++ x.s.data.toList)).length = (x.f + m + x.s.size).toNat := by
      simp only [List.length_append, hlen1, hxs]; omega
    rw [hT]
    rw [hpl] at i1 i2
    have hTl : (x.f + m + x.s.size) ≤ ((pre ++ ((s.data.toList.drop d).take (x.f.toNat - d) ++ x.s.data.toList) ++ madeF s.data.toList x.t.toNat l).length : Int) := by
      rw [List.length_append, hpl]; omega
    refine ⟨⟨by show (pre.length : Int) ≤ x.f + m; omega, by show x.f + m ≤ x.f + m + x.s.size; omega, hTl, i1⟩, ?_⟩
    simp only [invF, madeF, i2]
    rw [extract_toList]
    have e1 : (pre ++ ((s.data.toList.drop d).take (x.f.toNat - d) ++ x.s.data.toList) ++ madeF s.data.toList x.t.toNat l).drop pre.length = (s.data.toList.drop d).take (x.f.toNat - d) ++ (x.s.data.toList ++ madeF s.data.toList x.t.toNat l) := by
      rw [List.append_assoc, List.drop_left, List.append_assoc]
    rw [e1, List.take_append_of_le_length (by omega), List.take_of_length_le (by omega)]
    have e2 : s.data.toList.drop x.f.toNat = (s.data.toList.drop d).drop (x.f.toNat - d) := by rw [List.drop_drop]; congr 1; omega
    have e3 : s.data.toList.drop x.t.toNat = (s.data.toList.drop x.f.toNat).drop (x.t.toNat - x.f.toNat) := by rw [List.drop_drop]; congr 1; omega
    rw [e3, List.append_assoc, List.take_append_drop, e2, List.take_append_drop]

theorem text_le_made (s : List UInt8) : ∀ (l : List Ed) (d : Nat), ∀ x ∈ l, x.s.size ≤ (madeF s d l).length
  | [], _, _, h => by simp at h
  | y :: l, d, x, h => by
    simp only [madeF, List.length_append, size_toL]
    rw [List.mem_cons] at h
    rcases h with rfl | h
    · omega
    · have := text_le_made s l y.t.toNat x h; omega

theorem applF_zero {n : Nat} {l : List Ed} (h : applF n l = 0) : fineF n l = 0 ∧ (n : Int) + gsum (ordF l) ≤ 200000 := by
  unfold applF at h
  by_cases g : fineF n l ≠ 0
  · rw [if_pos g] at h; exact absurd h g
  · have g' : fineF n l = 0 := Classical.not_not.1 g
    refine ⟨g', ?_⟩
    rw [if_neg g] at h
    by_cases k : 200000 < (n : Int) + gsum (ordF l)
    · rw [if_pos k] at h; omega
    · omega

/-- the text behind edits -/
def behind (s : ByteArray) (l : List Ed) : ByteArray := ⟨(madeF s.data.toList 0 (ordF l)).toArray⟩
/-- the inverse of edits -/
def backF (s : ByteArray) (l : List Ed) : List Ed := joinF (invF s 0 (ordF l))

theorem behind_toL (s : ByteArray) (l : List Ed) : (behind s l).data.toList = madeF s.data.toList 0 (ordF l) := by simp [behind]
theorem behind_size {s : ByteArray} {l : List Ed} (h : applF s.size l = 0) : (behind s l).size ≤ 200000 := by
  obtain ⟨h1, h2⟩ := applF_zero h
  have h3 := madeF_length s.data.toList (ordF l) 0 (Nat.zero_le _) (by rw [size_toL]; exact chain_fine h1)
  have h4 := size_toL (behind s l)
  rw [behind_toL] at h4
  rw [size_toL] at h3
  omega

theorem back_ok {s : ByteArray} {l : List Ed} (h : applF s.size l = 0) :
    applF (behind s l).size (backF s l) = 0 ∧ ordF (backF s l) = backF s l ∧ behind (behind s l) (backF s l) = s ∧ (backF s l).length ≤ l.length ∧ (∀ x ∈ backF s l, x.s.size ≤ 200000) := by
  obtain ⟨h1, h2⟩ := applF_zero h
  obtain ⟨r1, r2, _, _⟩ := fineF_range h1
  have hch := chain_fine h1
  obtain ⟨i1, i2⟩ := inv_made s (ordF l) 0 0 [] (Nat.zero_le _) hch rfl
  simp only [List.nil_append, List.length_nil, List.drop_zero] at i1 i2
  rw [← behind_toL] at i1 i2
  have hb := behind_size h
  obtain ⟨j1, j2⟩ := joinF_same (behind s l).data.toList (behind s l).data.toList.length _ _ 0 (Nat.le_refl _) i1
  have hst := joinF_str _ (invF s 0 (ordF l)) (Nat.le_refl _)
  have hlen := joinF_length _ (invF s 0 (ordF l)) (Nat.le_refl _)
  rw [invF_length] at hlen
  have hlo := length_ordF l
  rw [size_toL] at j1
  obtain ⟨k1, k2⟩ := fine_chain (n := (behind s l).size) (l := backF s l) hb (by unfold backF; omega) j1 hst
  have hm : madeF (behind s l).data.toList 0 (backF s l) = s.data.toList := by unfold backF; rw [j2, i2]
  have hml := madeF_length (behind s l).data.toList (backF s l) 0 (Nat.zero_le _) (by rw [size_toL]; exact j1)
  rw [hm, size_toL, size_toL] at hml
  refine ⟨?_, k2, ?_, by unfold backF; omega, fun x hx => ?_⟩
  · unfold applF
    rw [if_neg (fun g => g k1), k2, if_neg (by omega)]
  · refine ba_ext ?_
    rw [behind_toL, k2, hm]
  · have := text_le_made (behind s l).data.toList (backF s l) 0 x hx
    rw [hm, size_toL] at this
    omega

/-- the error and the text do not hang on the order of a list -/
theorem ordF_congr {a b : List Ed} (h : ∀ x, x ∈ a ↔ x ∈ b) : ordF a = ordF b :=
  ordF_of_sorted (sorted_ordF a) (fun x => (mem_ordF x a).trans (h x))

theorem fineF_congr {n : Nat} {a b : List Ed} (hl : a.length = b.length) (h : ∀ x, x ∈ a ↔ x ∈ b) : fineF n a = fineF n b := by
  unfold fineF
  rw [hl, ordF_congr h]
  have : (∀ x ∈ a, rangeOk n x) ↔ ∀ x ∈ b, rangeOk n x := ⟨fun g x hx => g x ((h x).2 hx), fun g x hx => g x ((h x).1 hx)⟩
  simp only [this]

theorem applF_congr {n : Nat} {a b : List Ed} (hl : a.length = b.length) (h : ∀ x, x ∈ a ↔ x ∈ b) : applF n a = applF n b := by
  unfold applF
  rw [fineF_congr hl h, ordF_congr h]

end Go.Proofs.YtgpmodbndngcoaaDoor
