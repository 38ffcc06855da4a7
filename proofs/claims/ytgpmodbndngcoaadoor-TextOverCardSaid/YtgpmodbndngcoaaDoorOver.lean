/- Plain: edits over other edits. -/
import Derived.Test.YtgpmodbndngcoaaDoorInv
namespace Go.Proofs.YtgpmodbndngcoaaDoor
open Go.RowKit Go.Sort

def ltE' (x y : Ed) : Bool := decide (cmpE x y < 0)
theorem ltE'_iff (x y : Ed) : ltE' x y = true ↔ ltE x y := by unfold ltE'; rw [decide_eq_true_iff]; exact cmpE_neg
theorem ltE'_irrefl (x : Ed) : ltE' x x = false := by
  cases h : ltE' x x
  · rfl
  · exact absurd ((ltE'_iff _ _).1 h) (ltE_irrefl x)
theorem ltE'_asymm {x y : Ed} (h : ltE' x y = true) : ltE' y x = false := by
  cases g : ltE' y x
  · rfl
  · exact absurd (ltE_trans ((ltE'_iff _ _).1 h) ((ltE'_iff _ _).1 g)) (ltE_irrefl x)

/-- an edit, moved -/
def shiftE (m : Int) (x : Ed) : Ed := ⟨x.f + m, x.t + m, x.s⟩

/-- edits b as edits of the text that edits a make; both in order -/
def overF : List Ed → List Ed → Int → List Ed
  | _, [], _ => []
  | [], x :: b, m => shiftE m x :: overF [] b m
  | y :: a, x :: b, m => if ltE' y x then overF a (x :: b) (m + (y.s.size - (y.t - y.f))) else if y = x then overF (y :: a) b m else shiftE m x :: overF (y :: a) b m
termination_by a b => a.length + b.length

theorem overF_nil (a : List Ed) (m : Int) : overF a [] m = [] := by cases a <;> rw [overF]

theorem chain_le {n : Nat} {l : List Ed} {d d' : Nat} (h : d' ≤ d) (hc : Chain n d l) : Chain n d' l := by
  cases l with
  | nil => trivial
  | cons x l => exact ⟨by have := hc.1; omega, hc.2⟩

theorem chain_filter {n : Nat} (p : Ed → Bool) : ∀ (l : List Ed) (d : Nat), Chain n d l → Chain n d (l.filter p)
  | [], _, _ => trivial
  | x :: l, d, hc => by
    obtain ⟨c1, c2, c3, c4⟩ := hc
    have ih := chain_filter p l _ c4
    rw [List.filter_cons]
    by_cases g : p x = true
    · rw [if_pos g]; exact ⟨c1, c2, c3, ih⟩
    · rw [if_neg g]; exact chain_le (by omega) ih

theorem madeF_from (s : List UInt8) {n : Nat} : ∀ (l : List Ed) (d e : Nat), d ≤ e → e ≤ s.length → Chain n e l → madeF s d l = (s.drop d).take (e - d) ++ madeF s e l
  | [], d, e, h, _, _ => by
    simp only [madeF]
    have : s.drop e = (s.drop d).drop (e - d) := by rw [List.drop_drop]; congr 1; omega
    rw [this, List.take_append_drop]
  | x :: l, d, e, h, he, hc => by
    obtain ⟨c1, c2, c3, c4⟩ := hc
    simp only [madeF, ← List.append_assoc]
    congr 2
    have e1 : s.drop e = (s.drop d).drop (e - d) := by rw [List.drop_drop]; congr 1; omega
    have e2 : x.f.toNat - d = (e - d) + (x.f.toNat - e) := by omega
    rw [e1, e2, List.take_add]

theorem overF_sub (p q : Ed → Bool) (m : Int) (z : Ed) (M : List Ed) (hs : ∀ x ∈ M, ltE' z x = true) (hp : p z = true) :
    overF ((z :: M).filter p) ((z :: M).filter q) m = overF (M.filter p) (M.filter q) (m + (z.s.size - (z.t - z.f))) := by
  have key : ∀ b : List Ed, (∀ x ∈ b, ltE' z x = true) → overF (z :: M.filter p) b m = overF (M.filter p) b (m + (z.s.size - (z.t - z.f))) := by
    intro b hb
    cases b with
    | nil => rw [overF_nil, overF_nil]
    | cons x b => rw [overF, if_pos (hb x (by simp))]
  rw [List.filter_cons, if_pos hp, List.filter_cons]
  have hq : ∀ x ∈ M.filter q, ltE' z x = true := fun x hx => hs x (List.mem_filter.1 hx).1
  by_cases g : q z = true
  · rw [if_pos g]
    have hz : ltE' z z = false := ltE'_irrefl z
    rw [overF, if_neg (by rw [hz]; simp), if_pos rfl]
    exact key _ hq
  · rw [if_neg g]
    exact key _ hq

theorem overF_new (p q : Ed → Bool) (m : Int) (z : Ed) (M : List Ed) (hs : ∀ x ∈ M, ltE' z x = true) (hp : p z = false) (hq : q z = true) :
    overF ((z :: M).filter p) ((z :: M).filter q) m = shiftE m z :: overF (M.filter p) (M.filter q) m := by
  rw [List.filter_cons, if_neg (by rw [hp]; simp), List.filter_cons, if_pos hq]
  cases h : M.filter p with
  | nil => rw [overF]
  | cons y a =>
    have hy := hs y (List.mem_filter.1 (by rw [h]; simp : y ∈ M.filter p)).1
    rw [overF, if_neg (by rw [ltE'_asymm hy]; simp), if_neg (fun e => by subst e; rw [ltE'_irrefl] at hy; cases hy)]

theorem over_made (s : ByteArray) (p q : Ed → Bool) : ∀ (M : List Ed) (d : Nat) (m : Int) (pre : List UInt8), (∀ x ∈ M, p x = true ∨ q x = true) → M.Pairwise (fun a b => ltE' a b = true) → d ≤ s.size → Chain s.size d M → (pre.length : Int) = d + m →
    Chain (pre ++ madeF s.data.toList d (M.filter p)).length pre.length (overF (M.filter p) (M.filter q) m) ∧ madeF (pre ++ madeF s.data.toList d (M.filter p)) pre.length (overF (M.filter p) (M.filter q) m) = madeF s.data.toList d M
  | [], d, m, pre, _, _, hd, _, hp => by simp [overF_nil, madeF, Chain]
  | z :: M, d, m, pre, hpq, hso, hd, hc, hp => by
    obtain ⟨c1, c2, c3, c4⟩ := hc
    rw [List.pairwise_cons] at hso
    have hsz := size_toL s
    have hzs := size_toL z.s
    have hpq' : ∀ x ∈ M, p x = true ∨ q x = true := fun x hx => hpq x (by simp [hx])
    by_cases g : p z = true
    · rw [overF_sub p q m z M hso.1 g]
      have e1 : madeF s.data.toList d ((z :: M).filter p) = (s.data.toList.drop d).take (z.f.toNat - d) ++ z.s.data.toList ++ madeF s.data.toList z.t.toNat (M.filter p) := by
        rw [List.filter_cons, if_pos g]; rfl
      rw [e1]
      have hlen1 : ((s.data.toList.drop d).take (z.f.toNat - d)).length = z.f.toNat - d := by rw [List.length_take, List.length_drop, hsz]; omega
      generalize hA : (s.data.toList.drop d).take (z.f.toNat - d) ++ z.s.data.toList = A
      have hAl : A.length = z.f.toNat - d + z.s.size := by rw [← hA, List.length_append, hlen1, hzs]
      obtain ⟨i1, i2⟩ := over_made s p q M z.t.toNat (m + (z.s.size - (z.t - z.f))) (pre ++ A) hpq' hso.2 (by omega) c4 (by rw [List.length_append]; omega)
      rw [List.append_assoc] at i1 i2
      refine ⟨chain_le (by rw [List.length_append]; omega) i1, ?_⟩
      rw [madeF_from _ _ pre.length (pre ++ A).length (by rw [List.length_append]; omega) (by simp only [List.length_append]; omega) i1, i2, List.drop_left, List.length_append, Nat.add_sub_cancel_left, List.take_left, ← hA]
      rfl
    · have hpz : p z = false := by simpa using g
      have hqz : q z = true := by rcases hpq z (by simp) with h | h; exact absurd h g; exact h
      rw [overF_new p q m z M hso.1 hpz hqz]
      rw [List.filter_cons, if_neg g]
      have hcf := chain_filter p M _ c4
      have e1 := madeF_from s.data.toList (M.filter p) d z.t.toNat (by omega) (by rw [hsz]; omega) hcf
      rw [e1]
      have hlen1 : ((s.data.toList.drop d).take (z.t.toNat - d)).length = z.t.toNat - d := by rw [List.length_take, List.length_drop, hsz]; omega
      have hsplit : (s.data.toList.drop d).take (z.t.toNat - d) = (s.data.toList.drop d).take (z.f.toNat - d) ++ ((s.data.toList.drop d).drop (z.f.toNat - d)).take (z.t.toNat - z.f.toNat) := by
        rw [show z.t.toNat - d = (z.f.toNat - d) + (z.t.toNat - z.f.toNat) by omega, List.take_add]
      have hlen2 : ((s.data.toList.drop d).take (z.f.toNat - d)).length = z.f.toNat - d := by rw [List.length_take, List.length_drop, hsz]; omega
      obtain ⟨i1, i2⟩ := over_made s p q M z.t.toNat m (pre ++ (s.data.toList.drop d).take (z.t.toNat - d)) hpq' hso.2 (by omega) c4 (by rw [List.length_append, hlen1]; omega)
      rw [List.append_assoc] at i1 i2
      have hpl : (pre ++ (s.data.toList.drop d).take (z.t.toNat - d)).length = (z.t + m).toNat := by rw [List.length_append, hlen1]; omega
      rw [hpl] at i1 i2
      have hTl : (z.t + m) ≤ ((pre ++ ((s.data.toList.drop d).take (z.t.toNat - d) ++ madeF s.data.toList z.t.toNat (M.filter p))).length : Int) := by
        simp only [List.length_append, hlen1]; omega
      refine ⟨⟨by show (pre.length : Int) ≤ z.f + m; omega, by show z.f + m ≤ z.t + m; omega, hTl, i1⟩, ?_⟩
      show ((pre ++ _).drop pre.length).take ((z.f + m).toNat - pre.length) ++ z.s.data.toList ++ madeF _ (z.t + m).toNat _ = _
      rw [i2, List.drop_left, hsplit, List.append_assoc, List.append_assoc, List.take_append_of_le_length (by omega), List.take_of_length_le (by omega)]
      simp only [madeF, List.append_assoc]

theorem filter_ord (a M : List Ed) (hM : M.Pairwise ltE) (h : ∀ x ∈ a, x ∈ M) : M.filter (fun x => decide (x ∈ a)) = ordF a := by
  refine ordF_of_sorted (hM.filter _) (fun x => ?_)
  rw [List.mem_filter]
  simp only [decide_eq_true_eq]
  exact ⟨fun g => g.2, fun g => ⟨h x g, g⟩⟩

theorem filter_sub_length (p q : Ed → Bool) : ∀ (a b : List Ed) (m : Int), (overF a b m).length ≤ b.length
  | a, [], m => by rw [overF_nil]; exact Nat.le_refl _
  | [], x :: b, m => by
    rw [overF]; have := filter_sub_length p q [] b m; simp only [List.length_cons]; omega
  | y :: a, x :: b, m => by
    rw [overF]
    have h1 := filter_sub_length p q a (x :: b) (m + (y.s.size - (y.t - y.f)))
    have h2 := filter_sub_length p q (y :: a) b m
    simp only [List.length_cons] at *
    split
    · omega
    · split
      · omega
      · simp only [List.length_cons]; omega
termination_by a b => a.length + b.length

/-- Over's edits -/
def overE (a b : List Ed) : List Ed := joinF (overF (ordF a) (ordF b) 0)

theorem over_ok {s : ByteArray} {a b : List Ed} (ha : applF s.size a = 0) (hab : applF s.size (a ++ b) = 0) :
    applF (behind s a).size (overE a b) = 0 ∧ behind (behind s a) (overE a b) = behind s (a ++ b) ∧ (overE a b).length ≤ b.length ∧ (∀ x ∈ overE a b, x.s.size ≤ 200000) := by
  obtain ⟨h1, h2⟩ := applF_zero hab
  obtain ⟨r1, r2, _, _⟩ := fineF_range h1
  have hch := chain_fine h1
  have hM := sorted_ordF (a ++ b)
  have fa := filter_ord a (ordF (a ++ b)) hM (fun x hx => (mem_ordF x _).2 (by simp [hx]))
  have fb := filter_ord b (ordF (a ++ b)) hM (fun x hx => (mem_ordF x _).2 (by simp [hx]))
  have hM' : (ordF (a ++ b)).Pairwise (fun a b => ltE' a b = true) := hM.imp (fun h => (ltE'_iff _ _).2 h)
  obtain ⟨i1, i2⟩ := over_made s (fun x => decide (x ∈ a)) (fun x => decide (x ∈ b)) (ordF (a ++ b)) 0 0 [] (fun x hx => by
    have := (mem_ordF x _).1 hx
    simpa using this) hM' (Nat.zero_le _) hch rfl
  rw [fa, fb] at i1 i2
  simp only [List.nil_append, List.length_nil] at i1 i2
  rw [← behind_toL] at i1 i2
  have hb := behind_size ha
  obtain ⟨j1, j2⟩ := joinF_same (behind s a).data.toList (behind s a).data.toList.length _ _ 0 (Nat.le_refl _) i1
  have hst := joinF_str _ (overF (ordF a) (ordF b) 0) (Nat.le_refl _)
  have hlen := joinF_length _ (overF (ordF a) (ordF b) 0) (Nat.le_refl _)
  have hlen2 := filter_sub_length (fun _ => true) (fun _ => true) (ordF a) (ordF b) 0
  have hlo := length_ordF b
  rw [size_toL] at j1
  rw [List.length_append] at r2
  obtain ⟨k1, k2⟩ := fine_chain (n := (behind s a).size) (l := overE a b) hb (by unfold overE; omega) j1 hst
  have hm : madeF (behind s a).data.toList 0 (overE a b) = (behind s (a ++ b)).data.toList := by rw [behind_toL s (a ++ b)]; unfold overE; rw [j2, i2]
  have hml := madeF_length (behind s a).data.toList (overE a b) 0 (Nat.zero_le _) (by rw [size_toL]; exact j1)
  have hbs := behind_size hab
  rw [hm, size_toL, size_toL] at hml
  refine ⟨?_, ?_, by unfold overE; omega, fun x hx => ?_⟩
  · unfold applF
    rw [if_neg (fun g => g k1), k2, if_neg (by omega)]
  · refine ba_ext ?_
    rw [behind_toL, k2, hm]
  · have := text_le_made (behind s a).data.toList (overE a b) 0 x hx
    rw [hm, size_toL] at this
    omega

end Go.Proofs.YtgpmodbndngcoaaDoor
