/- heavy: whether a text or a list of edits is too large for a statement. Plain: the inverse of edits; edits that are joined; what is behind edits. Plain: edits over other edits. -/
import Derived.Test.YtihnafocjognaaaGreatDoorFit
import Derived.Test.YtihnafocjognaaaGreatDoorBuilder
import Derived.RegionTactic
import Derived.Test.YtihnafocjognaaaGreatDoorEd

namespace Go.Proofs.YtihnafocjognaaaGreatDoor
open Go.RowKit Go.Sort

theorem extract_toList (s : ByteArray) (i j : Nat) : (s.extract i j).data.toList = (s.data.toList.drop i).take (j - i) := by
  rw [ByteArray.data_extract, Array.toList_extract]

theorem extract_size (s : ByteArray) (i j : Nat) : (s.extract i j).size ≤ s.size := by
  rw [ByteArray.size_extract]; omega

/-- the text behind edits in order, from place d on -/
def madeF (s : List UInt8) : Nat → List Ed → List UInt8
  | d, [] => s.drop d
  | d, x :: l => (s.drop d).take (x.f.toNat - d) ++ x.s.data.toList ++ madeF s x.t.toNat l

theorem madeF_cons (s : List UInt8) (d : Nat) (x : Ed) (l : List Ed) : madeF s d (x :: l) = (s.drop d).take (x.f.toNat - d) ++ x.s.data.toList ++ madeF s x.t.toNat l := rfl

/-- edits one behind the other, from place d on -/
def Chain (n : Nat) : Nat → List Ed → Prop
  | _, [] => True
  | d, x :: l => (d : Int) ≤ x.f ∧ x.f ≤ x.t ∧ x.t ≤ n ∧ Chain n x.t.toNat l

theorem chain_of (n : Nat) : ∀ (l : List Ed) (d : Nat) (e p : Int), l.Pairwise ltE → (∀ x ∈ l, rangeOk n x) → ((d : Int) = e ∨ ∀ x ∈ l, (d : Int) ≤ x.f) → clashGo l e p = false → Chain n d l
  | [], _, _, _, _, _, _, _ => trivial
  | x :: l, d, e, p, hs, hr, hd, hc => by
    have hx := hr x (by simp)
    unfold rangeOk at hx
    obtain ⟨x1, x2, x3⟩ := hx
    unfold clashGo at hc
    by_cases c1 : x.f < e ∨ (x.f = x.t ∧ x.f = p)
    · rw [if_pos c1] at hc; cases hc
    · rw [if_neg c1] at hc
      have hdf : (d : Int) ≤ x.f := by
        rcases hd with hd | hd
        · omega
        · exact hd x (by simp)
      refine ⟨hdf, x2, x3, ?_⟩
      rw [List.pairwise_cons] at hs
      by_cases c2 : x.f = x.t
      · rw [if_pos c2] at hc
        refine chain_of n l _ e x.f hs.2 (fun y hy => hr y (by simp [hy])) (.inr fun y hy => ?_) hc
        have := hs.1 y hy
        unfold ltE at this
        omega
      · rw [if_neg c2] at hc
        exact chain_of n l _ x.t p hs.2 (fun y hy => hr y (by simp [hy])) (.inl (by omega)) hc

theorem chain_fine {n : Nat} {l : List Ed} (h : fineF n l = 0) : Chain n 0 (ordF l) := by
  obtain ⟨_, _, r3, r4⟩ := fineF_range h
  exact chain_of n _ 0 0 (-1) (sorted_ordF l) (fun x hx => r3 x ((mem_ordF x l).1 hx)) (.inl rfl) r4

theorem madeF_length (s : List UInt8) : ∀ (l : List Ed) (d : Nat), d ≤ s.length → Chain s.length d l → ((madeF s d l).length : Int) = s.length - d + gsum l
  | [], d, hd, _ => by simp [madeF, gsum]; omega
  | x :: l, d, hd, hc => by
    obtain ⟨h1, h2, h3, h4⟩ := hc
    have ih := madeF_length s l x.t.toNat (by omega) h4
    have e : x.s.data.toList.length = x.s.size := by simp
    simp only [madeF, List.length_append, List.length_take, List.length_drop, gsum, e]
    omega

theorem chain_drop (n : Nat) : ∀ (l : List Ed) (k : Nat) (d : Nat), Chain n d l → (h : k < l.length) → ∃ d', Chain n d' (l.drop k)
  | _, 0, d, hc, _ => ⟨d, hc⟩
  | [], k + 1, _, _, h => by simp at h
  | x :: l, k + 1, _, hc, h => chain_drop n l k _ hc.2.2.2 (by simpa using h)

set_option maxHeartbeats 1000000 in
set_option maxRecDepth 100000 in
theorem apply_any (s : ByteArray) (v : Value) (l : List Ed) (w : World) (hs : s.size ≤ 140737488355328) (hl : l.length ≤ 1000000) (hT : SmallT l) (h : IsE w v l) :
    Calls Tryz.prog 11 #[.string s, v] w fun e w' => e = .returned (.tuple #[.string (if applF s.size l = 0 then ⟨(madeF s.data.toList 0 (ordF l)).toArray⟩ else ⟨#[]⟩), .int .i64 (applF s.size l)]) ∧ Below w.heap.size w w' := by
  have ha := applicable_any s v l w hs hl hT h
  by_cases h0 : applF s.size l = 0
  · have hf0 : fineF s.size l = 0 := by
      unfold applF at h0
      by_cases g : fineF s.size l ≠ 0
      · rw [if_pos g] at h0; exact absurd h0 g
      · exact Classical.not_not.1 g
    obtain ⟨r1, r2, r3, r4⟩ := fineF_range hf0
    have hch := chain_fine hf0
    have hsz : s.data.toList.length = s.size := by simp
    have hml := madeF_length s.data.toList (ordF l) 0 (Nat.zero_le _) (by rw [hsz]; exact hch)
    have hlim : (s.size : Int) + gsum (ordF l) ≤ 200000 := by
      unfold applF at h0
      rw [if_neg (fun g => g hf0)] at h0
      by_cases g : 200000 < (s.size : Int) + gsum (ordF l)
      · rw [if_pos g] at h0; omega
      · omega
    have hm2 : (madeF s.data.toList 0 (ordF l)).length ≤ 200000 := by rw [hsz] at hml; omega
    have hlo := length_ordF l
    have hT' := hT.ord
    rw [if_pos h0, h0]
    rw [h0, show applL s.size l = ordF l by unfold applL; rw [if_pos h0]] at ha
    have hlo2 : (ordF l).length ≤ 10000 := by omega
    generalize ordF l = L at *
    have HA := Lib.hid ha
    have HC := Lib.hid hch
    have HT := Lib.hid hT'
    have HM := Lib.hid hm2
    have HSZ := Lib.hid hsz
    clear ha h h0 hf0 r3 r4 hch hsz hml hlim hT hT' hm2 hlo
    go_enter Tryz.func11, Tryz.ntmps11
    go_wp2_with (go_at_call 16; refine HA.out.mono ?_; rintro e w1 ⟨v', rfl, ⟨A, c, rfl, hA, g1, g2, hE⟩, hb1⟩)
    have HE := Lib.hid hE
    clear hA g2 HA hE
    go_wp2
    have hB0 := Bld.new w1
    go_loopw [9, 23] (fun dn i wr => ∃ (k d : Nat) (acc : List UInt8), k ≤ L.length ∧ dn = .int .i64 d ∧ i = .int .i64 k ∧ d ≤ s.size ∧ Hid (Chain s.size d (L.drop k)) ∧ Hid (acc ++ madeF s.data.toList d (L.drop k) = madeF s.data.toList 0 L) ∧ Bld wr w1.heap.size w1.heap.size acc ∧ Below w1.heap.size w1 wr) (fun _ i _ => L.length - (intOf i).toNat)
    case atStart => exact ⟨0, 0, [], Nat.zero_le _, rfl, rfl, Nat.zero_le _, HC.out, rfl, hB0, (Below.refl _ _).alloc (Nat.le_refl _) _⟩
    case round =>
      clear hB0
      obtain ⟨k, d, acc, hk, rfl, rfl, hd, hch, hm, hbl, hb⟩ := hrel
      by_cases hlt : k < L.length
      · obtain ⟨b, off, rfl, hB, c0, c1, c2⟩ := (HE.out.below hb).at_ k hlt
        have hmem : L[k] ∈ L := List.getElem_mem hlt
        have q2 := HT.out _ hmem
        have hch1 := hch.out
        have hm1 := hm.out
        rw [List.drop_eq_getElem_cons hlt] at hch1 hm1
        obtain ⟨h1, h2, h3, h4⟩ := hch1
        rw [madeF_cons] at hm1
        generalize L[k].f = f at *
        generalize L[k].t = t at *
        generalize L[k].s = x at *
        obtain ⟨fn, rfl⟩ := Int.eq_ofNat_of_zero_le (show 0 ≤ f by omega)
        obtain ⟨tn, rfl⟩ := Int.eq_ofNat_of_zero_le (show 0 ≤ t by omega)
        have h1 : d ≤ fn := by omega
        have h2 : fn ≤ tn := by omega
        have h3 : tn ≤ s.size := by omega
        have hacc : acc.length ≤ 200000 := by
          have := HM.out; have e := congrArg List.length hm1; simp only [List.length_append] at e; omega
        have H4 := Lib.hid h4
        have HM1 := Lib.hid hm1
        have hL := hbl.lt
        clear hch hm h4 hm1 hmem
        go_wp2_with fail
        have hx := heap_alloc_new wr (Obj.cells #[Value.int IntKind.i64 ↑fn, Value.int IntKind.i64 ↑tn, Value.string x] 24)
        have hxs := extract_size s d fn
        refine (writeString_any w1.heap.size w1.heap.size acc (s.extract d fn) _ (hbl.alloc _) (by omega) (by simp; omega)).mono ?_
        rintro e w2 ⟨rfl, hbl2, hk2⟩
        have hx2 := hk2.block hx (by omega) (by decide)
        have cx2 : w2.cell? ⟨wr.heap.size, 2, none⟩ = some (.string x) := cell_of_row w2 _ _ _ _ (0, 0) hx2
        have hsz2 : w1.heap.size ≤ w2.heap.size := by have := hbl2.lt; omega
        have HX2 := Lib.hid hx2
        clear hx hx2 c0 c1 c2
        go_wp2_with fail
        refine (writeString_any w1.heap.size w1.heap.size _ x _ hbl2 (by rw [List.length_append, extract_toList, List.length_take, List.length_drop]; omega) hsz2).mono ?_
        rintro e w3 ⟨rfl, hbl3, hk3⟩
        have hx3 := hk3.block HX2.out (by omega) (by decide)
        have cx3 : w3.cell? ⟨wr.heap.size, 1, none⟩ = some (.int .i64 tn) := cell_of_row w3 _ _ _ _ (0, 0) hx3
        have HB3 := Lib.hid (((hb.alloc (by omega) _).trans hk2.1).trans hk3.1)
        clear hx3 cx2 hb hk2 hk3 hbl hbl2
        go_wp2
        go_roundw
        case rel =>
          refine ⟨k + 1, tn, _, by omega, by go_num, by go_num, h3, H4.out, ?_, hbl3, HB3.out⟩
          unfold Hid
          rw [← HM1.out, extract_toList]
          simp only [Int.toNat_natCast, List.append_assoc]
        case measure => simp [intOf]; omega
      · have hm1 := hm.out
        rw [List.drop_eq_nil_of_le (by omega)] at hm1
        have hacc : acc.length ≤ 200000 := by
          have := HM.out; have e := congrArg List.length hm1; simp only [List.length_append] at e; omega
        have hm2 : acc ++ (s.extract d s.size).data.toList = madeF s.data.toList 0 L := by
          rw [← hm1, extract_toList, List.take_of_length_le (by simp)]
          rfl
        have HM2 := Lib.hid hm2
        have hxs := extract_size s d s.size
        have hL := hbl.lt
        have hsz := HSZ.out
        clear hm hm1 hm2 hch
        go_wp2_with fail
        refine (writeString_any w1.heap.size w1.heap.size acc (s.extract d s.size) _ hbl (by omega) (by omega)).mono ?_
        rintro e w2 ⟨rfl, hbl2, hk2⟩
        rw [HM2.out] at hbl2
        have hL2 := hbl2.lt
        go_wp2_with fail
        refine (bstring_any w1.heap.size w1.heap.size _ _ hbl2 (by omega)).mono ?_
        rintro e w3 ⟨rfl, hk3⟩
        go_wp2
        go_ret2
        exact ⟨rfl, hb1.trans (((hb.trans hk2.1).trans hk3.1).mono hb1.size)⟩
  · rw [if_neg h0]
    have hal : applL s.size l = [] := by unfold applL; rw [if_neg h0]
    rw [hal] at ha
    generalize applF s.size l = E at *
    have HA := Lib.hid ha
    have hne : (E != 0) = true := by simp [h0]
    clear ha h hT hal
    go_enter Tryz.func11, Tryz.ntmps11
    go_wp2_with (go_at_call 16; refine HA.out.mono ?_; rintro e w1 ⟨v', rfl, hI, hb1⟩)
    go_ret2
    exact ⟨rfl, hb1⟩

end Go.Proofs.YtihnafocjognaaaGreatDoor

namespace Go.Proofs.YtihnafocjognaaaGreatDoor
open Go.RowKit Go.Maps

/-- the bytes of all texts of edits -/
def textsF : List Ed → Nat
  | [] => 0
  | x :: l => x.s.size + textsF l

theorem textsF_take (l : List Ed) (k : Nat) (h : k < l.length) : textsF (l.take (k + 1)) = textsF (l.take k) + l[k].s.size := by
  induction l generalizing k with
  | nil => simp at h
  | cons x l ih =>
    cases k with
    | zero => simp [textsF]
    | succ k => simp only [List.take_succ_cons, textsF, List.getElem_cons_succ, ih k (by simpa using h)]; omega

theorem textsF_mem (l : List Ed) : ∀ x ∈ l, x.s.size ≤ textsF l := by
  induction l with
  | nil => intro x hx; simp at hx
  | cons y l ih =>
    intro x hx
    simp only [textsF]
    rcases List.mem_cons.1 hx with rfl | hx
    · omega
    · have := ih x hx; omega

def heavyF (s : ByteArray) (l : List Ed) : Bool := decide (6000 < s.size + textsF l) || (decide (60 < l.length) && decide (l.length ≤ 10000))

theorem textsF_le (l : List Ed) (k : Nat) : textsF (l.take k) ≤ textsF l := by
  induction l generalizing k with
  | nil => simp [textsF]
  | cons x l ih =>
    cases k with
    | zero => simp [textsF]
    | succ k => simp only [List.take_succ_cons, textsF]; have := ih k; omega

end Go.Proofs.YtihnafocjognaaaGreatDoor

namespace Go.Proofs.YtihnafocjognaaaGreatDoor
open Go.RowKit Go.Sort

/-- the inverse of edits in order, one for each -/
def invF (s : ByteArray) : Int → List Ed → List Ed
  | _, [] => []
  | m, x :: l => ⟨x.f + m, x.f + m + x.s.size, s.extract x.f.toNat x.t.toNat⟩ :: invF s (m + (x.s.size - (x.t - x.f))) l

theorem invF_length (s : ByteArray) : ∀ (l : List Ed) (m : Int), (invF s m l).length = l.length
  | [], _ => rfl
  | x :: l, m => by simp [invF, invF_length s l]

theorem madeF_pts (s : List UInt8) (e : Int) (r : List Ed) : ∀ p : List Ed, (∀ y ∈ p, y.f = e ∧ y.t = e) → madeF s e.toNat (p ++ r) = textsL p ++ madeF s e.toNat r
  | [], _ => by simp [textsL]
  | y :: p, h => by
    obtain ⟨h1, h2⟩ := h y (by simp)
    have ih := madeF_pts s e r p (fun z hz => h z (by simp [hz]))
    simp only [List.cons_append, madeF, h1, h2, Nat.sub_self, List.take_zero, List.nil_append]
    rw [ih, textsL_cons, List.append_assoc]

theorem chain_pts (n : Nat) (e : Int) (r : List Ed) : ∀ p : List Ed, (∀ y ∈ p, y.f = e ∧ y.t = e) → Chain n e.toNat (p ++ r) → Chain n e.toNat r
  | [], _, h => h
  | y :: p, h, hc => by
    obtain ⟨h1, h2⟩ := h y (by simp)
    obtain ⟨_, _, _, h4⟩ := hc
    rw [h2] at h4
    exact chain_pts n e r p (fun z hz => h z (by simp [hz])) h4

theorem gsum_append (a b : List Ed) : gsum (a ++ b) = gsum a + gsum b := by
  induction a with
  | nil => simp [gsum]
  | cons x a ih => simp only [List.cons_append, gsum, ih]; omega

/-- no two that stand side by side have no bytes and one place -/
def Str : List Ed → Prop
  | [] => True
  | [_] => True
  | x :: y :: l => sameP x y = false ∧ Str (y :: l)

theorem str_cons {x : Ed} {l : List Ed} (h : ∀ y l', l = y :: l' → sameP x y = false) (hl : Str l) : Str (x :: l) := by
  cases l with
  | nil => trivial
  | cons y l => exact ⟨h y l rfl, hl⟩

theorem dropWhile_head {x y : Ed} : ∀ {l l' : List Ed}, l.dropWhile (sameP x) = y :: l' → sameP x y = false
  | [], _, h => by simp at h
  | z :: l, l', h => by
    rw [List.dropWhile_cons] at h
    by_cases g : sameP x z = true
    · rw [if_pos g] at h; exact dropWhile_head h
    · rw [if_neg g] at h
      injection h with h1 _
      subst h1
      simpa using g

theorem joinF_head {l l' : List Ed} {y : Ed} (h : joinF l = y :: l') : ∃ z m, l = z :: m ∧ y.f = z.f ∧ y.t = z.t := by
  cases l with
  | nil => rw [joinF_nil] at h; cases h
  | cons z m =>
    rw [joinF_cons] at h
    injection h with h1 _
    subst h1
    exact ⟨z, m, rfl, rfl, rfl⟩

theorem joinF_str : ∀ (n : Nat) (l : List Ed), l.length ≤ n → Str (joinF l)
  | _, [], _ => by rw [joinF_nil]; trivial
  | 0, x :: l, h => by simp at h
  | n + 1, x :: l, h => by
    rw [joinF_cons]
    have h1 := drop_le x l
    simp only [List.length_cons] at h
    refine str_cons (fun y l' e => ?_) (joinF_str n _ (by omega))
    obtain ⟨z, m, e2, f1, f2⟩ := joinF_head e
    have := dropWhile_head e2
    rw [← this]
    simp [sameP, f1, f2]

theorem toL_size (l : List UInt8) : (ByteArray.mk l.toArray).size = l.length := by simp [ByteArray.size]
theorem size_toL (s : ByteArray) : s.data.toList.length = s.size := by simp

theorem joinF_same (s : List UInt8) (n : Nat) : ∀ (N : Nat) (l : List Ed) (d : Nat), l.length ≤ N → Chain n d l → Chain n d (joinF l) ∧ madeF s d (joinF l) = madeF s d l
  | _, [], d, _, _ => by rw [joinF_nil]; exact ⟨trivial, rfl⟩
  | 0, x :: l, _, h, _ => by simp at h
  | N + 1, x :: l, d, h, hc => by
    rw [joinF_cons]
    have h1 := drop_le x l
    simp only [List.length_cons] at h
    obtain ⟨c1, c2, c3, c4⟩ := hc
    have hsplit : l.takeWhile (sameP x) ++ l.dropWhile (sameP x) = l := List.takeWhile_append_dropWhile
    have hp : ∀ y ∈ l.takeWhile (sameP x), y.f = x.t ∧ y.t = x.t := fun y hy => by
      have := sameP_iff.1 (mem_takeWhile hy)
      omega
    rw [← hsplit] at c4
    obtain ⟨i1, i2⟩ := joinF_same s n N (l.dropWhile (sameP x)) x.t.toNat (by omega) (chain_pts n x.t _ _ hp c4)
    refine ⟨⟨c1, c2, c3, i1⟩, ?_⟩
    simp only [madeF, i2]
    have e := madeF_pts s x.t (l.dropWhile (sameP x)) _ hp
    rw [hsplit] at e
    rw [e, textsL_cons]
    simp only [List.append_assoc]

theorem chain_sorted (n : Nat) : ∀ (l : List Ed) (d : Nat), Chain n d l → Str l → l.Pairwise ltE
  | [], _, _, _ => List.Pairwise.nil
  | [x], _, _, _ => by simp
  | x :: y :: l, d, hc, hs => by
    obtain ⟨c1, c2, c3, c4⟩ := hc
    have ih := chain_sorted n (y :: l) _ c4 hs.2
    obtain ⟨d1, d2, d3, d4⟩ := c4
    have hn := hs.1
    have hxy : ltE x y := by
      unfold ltE
      by_cases g : x.f < y.f
      · exact .inl g
      · refine .inr ⟨by omega, .inl ?_⟩
        have : ¬ (x.f = x.t ∧ y.f = x.f ∧ y.t = x.t) := fun e => by rw [sameP_iff.2 e] at hn; cases hn
        omega
    rw [List.pairwise_cons]
    refine ⟨fun z hz => ?_, ih⟩
    rw [List.mem_cons] at hz
    rcases hz with rfl | hz
    · exact hxy
    · exact ltE_trans hxy ((List.pairwise_cons.1 ih).1 z hz)

theorem chain_clash (n : Nat) : ∀ (l : List Ed) (d : Nat) (e p : Int), Chain n d l → Str l → e ≤ d → p ≤ d → (∀ x l', l = x :: l' → ¬ (x.f = x.t ∧ x.f = p)) → clashGo l e p = false
  | [], _, _, _, _, _, _, _, _ => rfl
  | x :: l, d, e, p, hc, hs, he, hp, hh => by
    obtain ⟨c1, c2, c3, c4⟩ := hc
    have hx := hh x l rfl
    have hsl : Str l := by
      cases l with
      | nil => trivial
      | cons y l => exact hs.2
    unfold clashGo
    rw [if_neg (by omega)]
    by_cases g : x.f = x.t
    · rw [if_pos g]
      refine chain_clash n l _ e x.f c4 hsl (by omega) (by omega) ?_
      rintro y l' rfl
      have hn := hs.1
      intro k
      rw [sameP_iff.2 ⟨g, by omega, by omega⟩] at hn
      cases hn
    · rw [if_neg g]
      refine chain_clash n l _ x.t p c4 hsl (by omega) (by omega) ?_
      rintro y l' rfl
      obtain ⟨d1, d2, d3, d4⟩ := c4
      omega

theorem chain_range (n : Nat) : ∀ (l : List Ed) (d : Nat), Chain n d l → ∀ x ∈ l, rangeOk n x
  | [], _, _, _, h => by simp at h
  | x :: l, d, hc, y, hy => by
    obtain ⟨c1, c2, c3, c4⟩ := hc
    rw [List.mem_cons] at hy
    rcases hy with rfl | hy
    · exact ⟨by omega, c2, c3⟩
    · exact chain_range n l _ c4 y hy

/-- edits one behind the other are fine, and in order as they are -/
theorem fine_chain {n : Nat} {l : List Ed} (hn : n ≤ 200000) (hl : l.length ≤ 10000) (hc : Chain n 0 l) (hs : Str l) : fineF n l = 0 ∧ ordF l = l := by
  have ho : ordF l = l := (ordF_of_sorted (chain_sorted n l 0 hc hs) (r := l) (fun _ => Iff.rfl)).symm
  refine ⟨?_, ho⟩
  unfold fineF
  rw [if_neg (by omega), if_neg (fun g => g (chain_range n l 0 hc)), ho, chain_clash n l 0 0 (-1) hc hs (by omega) (by omega) (fun x l' e => by subst e; obtain ⟨c1, _⟩ := hc; omega)]
  rfl

theorem inv_made (s : ByteArray) : ∀ (l : List Ed) (d : Nat) (m : Int) (pre : List UInt8), d ≤ s.size → Chain s.size d l → (pre.length : Int) = d + m →
    Chain (pre ++ madeF s.data.toList d l).length pre.length (invF s m l) ∧ madeF (pre ++ madeF s.data.toList d l) pre.length (invF s m l) = s.data.toList.drop d
  | [], d, m, pre, hd, _, hp => by simp [invF, madeF, Chain]
  | x :: l, d, m, pre, hd, hc, hp => by
    obtain ⟨c1, c2, c3, c4⟩ := hc
    have hsz := size_toL s
    have hxs := size_toL x.s
    have hlen1 : ((s.data.toList.drop d).take (x.f.toNat - d)).length = x.f.toNat - d := by rw [List.length_take, List.length_drop, hsz]; omega
    obtain ⟨i1, i2⟩ := inv_made s l x.t.toNat (m + (x.s.size - (x.t - x.f))) (pre ++ ((s.data.toList.drop d).take (x.f.toNat - d) ++ x.s.data.toList)) (by omega) c4 (by
      simp only [List.length_append, hlen1, hxs]; omega)
    have hT : pre ++ madeF s.data.toList d (x :: l) = pre ++ ((s.data.toList.drop d).take (x.f.toNat - d) ++ x.s.data.toList) ++ madeF s.data.toList x.t.toNat l := by
      simp only [madeF, List.append_assoc]
    have hpl : (pre ++ ((s.data.toList.drop d).take (x.f.toNat - d) ++ x.s.data.toList)).length = (x.f + m + x.s.size).toNat := by
      simp only [List.length_append, hlen1, hxs]; omega
    rw [hT]
    rw [hpl] at i1 i2
    have hTl : (x.f + m + x.s.size) ≤ ((pre ++ ((s.data.toList.drop d).take (x.f.toNat - d) ++ x.s.data.toList) ++ madeF s.data.toList x.t.toNat l).length : Int) := by
      rw [List.length_append, hpl]; omega
    refine ⟨⟨by show (pre.length : Int) ≤ x.f + m; omega, by show x.f + m ≤ x.f + m + x.s.size; omega, hTl, i1⟩, ?_⟩
    simp only [invF, madeF, i2]
    rw [extract_toList]
    have e1 : (pre ++ ((s.data.toList.drop d).take (x.f.toNat - d) ++ x.s.data.toList) ++ madeF s.data.toList x.t.toNat l).drop pre.length = (s.data.toList.drop d).take (x.f.toNat - d) ++ (x.s.data.toList ++ madeF s.data.toList x.t.toNat l) := by
      rw [List.append_assoc, List.drop_left, List.append_assoc]
    rw [e1, List.take_append_of_le_length (by omega), List.take_of_length_le (by omega)]
    have e2 : s.data.toList.drop x.f.toNat = (s.data.toList.drop d).drop (x.f.toNat - d) := by rw [List.drop_drop]; congr 1; omega
    have e3 : s.data.toList.drop x.t.toNat = (s.data.toList.drop x.f.toNat).drop (x.t.toNat - x.f.toNat) := by rw [List.drop_drop]; congr 1; omega
    rw [e3, List.append_assoc, List.take_append_drop, e2, List.take_append_drop]

theorem text_le_made (s : List UInt8) : ∀ (l : List Ed) (d : Nat), ∀ x ∈ l, x.s.size ≤ (madeF s d l).length
  | [], _, _, h => by simp at h
  | y :: l, d, x, h => by
    simp only [madeF, List.length_append, size_toL]
    rw [List.mem_cons] at h
    rcases h with rfl | h
    · omega
    · have := text_le_made s l y.t.toNat x h; omega

theorem applF_zero {n : Nat} {l : List Ed} (h : applF n l = 0) : fineF n l = 0 ∧ (n : Int) + gsum (ordF l) ≤ 200000 := by
  unfold applF at h
  by_cases g : fineF n l ≠ 0
  · rw [if_pos g] at h; exact absurd h g
  · have g' : fineF n l = 0 := Classical.not_not.1 g
    refine ⟨g', ?_⟩
    rw [if_neg g] at h
    by_cases k : 200000 < (n : Int) + gsum (ordF l)
    · rw [if_pos k] at h; omega
    · omega

/-- the text behind edits -/
def behind (s : ByteArray) (l : List Ed) : ByteArray := ⟨(madeF s.data.toList 0 (ordF l)).toArray⟩
/-- the inverse of edits -/
def backF (s : ByteArray) (l : List Ed) : List Ed := joinF (invF s 0 (ordF l))

theorem behind_toL (s : ByteArray) (l : List Ed) : (behind s l).data.toList = madeF s.data.toList 0 (ordF l) := by simp [behind]
theorem behind_size {s : ByteArray} {l : List Ed} (h : applF s.size l = 0) : (behind s l).size ≤ 200000 := by
  obtain ⟨h1, h2⟩ := applF_zero h
  have h3 := madeF_length s.data.toList (ordF l) 0 (Nat.zero_le _) (by rw [size_toL]; exact chain_fine h1)
  have h4 := size_toL (behind s l)
  rw [behind_toL] at h4
  rw [size_toL] at h3
  omega

theorem back_ok {s : ByteArray} {l : List Ed} (h : applF s.size l = 0) :
    applF (behind s l).size (backF s l) = 0 ∧ ordF (backF s l) = backF s l ∧ behind (behind s l) (backF s l) = s ∧ (backF s l).length ≤ l.length ∧ (∀ x ∈ backF s l, x.s.size ≤ 200000) := by
  obtain ⟨h1, h2⟩ := applF_zero h
  obtain ⟨r1, r2, _, _⟩ := fineF_range h1
  have hch := chain_fine h1
  obtain ⟨i1, i2⟩ := inv_made s (ordF l) 0 0 [] (Nat.zero_le _) hch rfl
  simp only [List.nil_append, List.length_nil, List.drop_zero] at i1 i2
  rw [← behind_toL] at i1 i2
  have hb := behind_size h
  obtain ⟨j1, j2⟩ := joinF_same (behind s l).data.toList (behind s l).data.toList.length _ _ 0 (Nat.le_refl _) i1
  have hst := joinF_str _ (invF s 0 (ordF l)) (Nat.le_refl _)
  have hlen := joinF_length _ (invF s 0 (ordF l)) (Nat.le_refl _)
  rw [invF_length] at hlen
  have hlo := length_ordF l
  rw [size_toL] at j1
  obtain ⟨k1, k2⟩ := fine_chain (n := (behind s l).size) (l := backF s l) hb (by unfold backF; omega) j1 hst
  have hm : madeF (behind s l).data.toList 0 (backF s l) = s.data.toList := by unfold backF; rw [j2, i2]
  have hml := madeF_length (behind s l).data.toList (backF s l) 0 (Nat.zero_le _) (by rw [size_toL]; exact j1)
  rw [hm, size_toL, size_toL] at hml
  refine ⟨?_, k2, ?_, by unfold backF; omega, fun x hx => ?_⟩
  · unfold applF
    rw [if_neg (fun g => g k1), k2, if_neg (by omega)]
  · refine ba_ext ?_
    rw [behind_toL, k2, hm]
  · have := text_le_made (behind s l).data.toList (backF s l) 0 x hx
    rw [hm, size_toL] at this
    omega

/-- the error and the text do not hang on the order of a list -/
theorem ordF_congr {a b : List Ed} (h : ∀ x, x ∈ a ↔ x ∈ b) : ordF a = ordF b :=
  ordF_of_sorted (sorted_ordF a) (fun x => (mem_ordF x a).trans (h x))

theorem fineF_congr {n : Nat} {a b : List Ed} (hl : a.length = b.length) (h : ∀ x, x ∈ a ↔ x ∈ b) : fineF n a = fineF n b := by
  unfold fineF
  rw [hl, ordF_congr h]
  have : (∀ x ∈ a, rangeOk n x) ↔ ∀ x ∈ b, rangeOk n x := ⟨fun g x hx => g x ((h x).2 hx), fun g x hx => g x ((h x).1 hx)⟩
  simp only [this]

theorem applF_congr {n : Nat} {a b : List Ed} (hl : a.length = b.length) (h : ∀ x, x ∈ a ↔ x ∈ b) : applF n a = applF n b := by
  unfold applF
  rw [fineF_congr hl h, ordF_congr h]

end Go.Proofs.YtihnafocjognaaaGreatDoor

namespace Go.Proofs.YtihnafocjognaaaGreatDoor
open Go.RowKit Go.Sort

def ltE' (x y : Ed) : Bool := decide (cmpE x y < 0)
theorem ltE'_iff (x y : Ed) : ltE' x y = true ↔ ltE x y := by unfold ltE'; rw [decide_eq_true_iff]; exact cmpE_neg
theorem ltE'_irrefl (x : Ed) : ltE' x x = false := by
  cases h : ltE' x x
  · rfl
  · exact absurd ((ltE'_iff _ _).1 h) (ltE_irrefl x)
theorem ltE'_asymm {x y : Ed} (h : ltE' x y = true) : ltE' y x = false := by
  cases g : ltE' y x
  · rfl
  · exact absurd (ltE_trans ((ltE'_iff _ _).1 h) ((ltE'_iff _ _).1 g)) (ltE_irrefl x)

/-- an edit, moved -/
def shiftE (m : Int) (x : Ed) : Ed := ⟨x.f + m, x.t + m, x.s⟩

/-- edits b as edits of the text that edits a make; both in order -/
def overF : List Ed → List Ed → Int → List Ed
  | _, [], _ => []
  | [], x :: b, m => shiftE m x :: overF [] b m
  | y :: a, x :: b, m => if ltE' y x then overF a (x :: b) (m + (y.s.size - (y.t - y.f))) else if y = x then overF (y :: a) b m else shiftE m x :: overF (y :: a) b m
termination_by a b => a.length + b.length

theorem overF_nil (a : List Ed) (m : Int) : overF a [] m = [] := by cases a <;> rw [overF]

theorem chain_le {n : Nat} {l : List Ed} {d d' : Nat} (h : d' ≤ d) (hc : Chain n d l) : Chain n d' l := by
  cases l with
  | nil => trivial
  | cons x l => exact ⟨by have := hc.1; omega, hc.2⟩

theorem chain_filter {n : Nat} (p : Ed → Bool) : ∀ (l : List Ed) (d : Nat), Chain n d l → Chain n d (l.filter p)
  | [], _, _ => trivial
  | x :: l, d, hc => by
    obtain ⟨c1, c2, c3, c4⟩ := hc
    have ih := chain_filter p l _ c4
    rw [List.filter_cons]
    by_cases g : p x = true
    · rw [if_pos g]; exact ⟨c1, c2, c3, ih⟩
    · rw [if_neg g]; exact chain_le (by omega) ih

theorem madeF_from (s : List UInt8) {n : Nat} : ∀ (l : List Ed) (d e : Nat), d ≤ e → e ≤ s.length → Chain n e l → madeF s d l = (s.drop d).take (e - d) ++ madeF s e l
  | [], d, e, h, _, _ => by
    simp only [madeF]
    have : s.drop e = (s.drop d).drop (e - d) := by rw [List.drop_drop]; congr 1; omega
    rw [this, List.take_append_drop]
  | x :: l, d, e, h, he, hc => by
    obtain ⟨c1, c2, c3, c4⟩ := hc
    simp only [madeF, ← List.append_assoc]
    congr 2
    have e1 : s.drop e = (s.drop d).drop (e - d) := by rw [List.drop_drop]; congr 1; omega
    have e2 : x.f.toNat - d = (e - d) + (x.f.toNat - e) := by omega
    rw [e1, e2, List.take_add]

theorem overF_sub (p q : Ed → Bool) (m : Int) (z : Ed) (M : List Ed) (hs : ∀ x ∈ M, ltE' z x = true) (hp : p z = true) :
    overF ((z :: M).filter p) ((z :: M).filter q) m = overF (M.filter p) (M.filter q) (m + (z.s.size - (z.t - z.f))) := by
  have key : ∀ b : List Ed, (∀ x ∈ b, ltE' z x = true) → overF (z :: M.filter p) b m = overF (M.filter p) b (m + (z.s.size - (z.t - z.f))) := by
    intro b hb
    cases b with
    | nil => rw [overF_nil, overF_nil]
    | cons x b => rw [overF, if_pos (hb x (by simp))]
  rw [List.filter_cons, if_pos hp, List.filter_cons]
  have hq : ∀ x ∈ M.filter q, ltE' z x = true := fun x hx => hs x (List.mem_filter.1 hx).1
  by_cases g : q z = true
  · rw [if_pos g]
    have hz : ltE' z z = false := ltE'_irrefl z
    rw [overF, if_neg (by rw [hz]; simp), if_pos rfl]
    exact key _ hq
  · rw [if_neg g]
    exact key _ hq

theorem overF_new (p q : Ed → Bool) (m : Int) (z : Ed) (M : List Ed) (hs : ∀ x ∈ M, ltE' z x = true) (hp : p z = false) (hq : q z = true) :
    overF ((z :: M).filter p) ((z :: M).filter q) m = shiftE m z :: overF (M.filter p) (M.filter q) m := by
  rw [List.filter_cons, if_neg (by rw [hp]; simp), List.filter_cons, if_pos hq]
  cases h : M.filter p with
  | nil => rw [overF]
  | cons y a =>
    have hy := hs y (List.mem_filter.1 (by rw [h]; simp : y ∈ M.filter p)).1
    rw [overF, if_neg (by rw [ltE'_asymm hy]; simp), if_neg (fun e => by subst e; rw [ltE'_irrefl] at hy; cases hy)]

theorem over_made (s : ByteArray) (p q : Ed → Bool) : ∀ (M : List Ed) (d : Nat) (m : Int) (pre : List UInt8), (∀ x ∈ M, p x = true ∨ q x = true) → M.Pairwise (fun a b => ltE' a b = true) → d ≤ s.size → Chain s.size d M → (pre.length : Int) = d + m →
    Chain (pre ++ madeF s.data.toList d (M.filter p)).length pre.length (overF (M.filter p) (M.filter q) m) ∧ madeF (pre ++ madeF s.data.toList d (M.filter p)) pre.length (overF (M.filter p) (M.filter q) m) = madeF s.data.toList d M
  | [], d, m, pre, _, _, hd, _, hp => by simp [overF_nil, madeF, Chain]
  | z :: M, d, m, pre, hpq, hso, hd, hc, hp => by
    obtain ⟨c1, c2, c3, c4⟩ := hc
    rw [List.pairwise_cons] at hso
    have hsz := size_toL s
    have hzs := size_toL z.s
    have hpq' : ∀ x ∈ M, p x = true ∨ q x = true := fun x hx => hpq x (by simp [hx])
    by_cases g : p z = true
    · rw [overF_sub p q m z M hso.1 g]
      have e1 : madeF s.data.toList d ((z :: M).filter p) = (s.data.toList.drop d).take (z.f.toNat - d) ++ z.s.data.toList ++ madeF s.data.toList z.t.toNat (M.filter p) := by
        rw [List.filter_cons, if_pos g]; rfl
      rw [e1]
      have hlen1 : ((s.data.toList.drop d).take (z.f.toNat - d)).length = z.f.toNat - d := by rw [List.length_take, List.length_drop, hsz]; omega
      generalize hA : (s.data.toList.drop d).take (z.f.toNat - d) ++ z.s.data.toList = A
      have hAl : A.length = z.f.toNat - d + z.s.size := by rw [← hA, List.length_append, hlen1, hzs]
      obtain ⟨i1, i2⟩ := over_made s p q M z.t.toNat (m + (z.s.size - (z.t - z.f))) (pre ++ A) hpq' hso.2 (by omega) c4 (by rw [List.length_append]; omega)
      rw [List.append_assoc] at i1 i2
      refine ⟨chain_le (by rw [List.length_append]; omega) i1, ?_⟩
      rw [madeF_from _ _ pre.length (pre ++ A).length (by rw [List.length_append]; omega) (by simp only [List.length_append]; omega) i1, i2, List.drop_left, List.length_append, Nat.add_sub_cancel_left, List.take_left, ← hA]
      rfl
    · have hpz : p z = false := by simpa using g
      have hqz : q z = true := by rcases hpq z (by simp) with h | h; exact absurd h g; exact h
      rw [overF_new p q m z M hso.1 hpz hqz]
      rw [List.filter_cons, if_neg g]
      have hcf := chain_filter p M _ c4
      have e1 := madeF_from s.data.toList (M.filter p) d z.t.toNat (by omega) (by rw [hsz]; omega) hcf
      rw [e1]
      have hlen1 : ((s.data.toList.drop d).take (z.t.toNat - d)).length = z.t.toNat - d := by rw [List.length_take, List.length_drop, hsz]; omega
      have hsplit : (s.data.toList.drop d).take (z.t.toNat - d) = (s.data.toList.drop d).take (z.f.toNat - d) ++ ((s.data.toList.drop d).drop (z.f.toNat - d)).take (z.t.toNat - z.f.toNat) := by
        rw [show z.t.toNat - d = (z.f.toNat - d) + (z.t.toNat - z.f.toNat) by omega, List.take_add]
      have hlen2 : ((s.data.toList.drop d).take (z.f.toNat - d)).length = z.f.toNat - d := by rw [List.length_take, List.length_drop, hsz]; omega
      obtain ⟨i1, i2⟩ := over_made s p q M z.t.toNat m (pre ++ (s.data.toList.drop d).take (z.t.toNat - d)) hpq' hso.2 (by omega) c4 (by rw [List.length_append, hlen1]; omega)
      rw [List.append_assoc] at i1 i2
      have hpl : (pre ++ (s.data.toList.drop d).take (z.t.toNat - d)).length = (z.t + m).toNat := by rw [List.length_append, hlen1]; omega
      rw [hpl] at i1 i2
      have hTl : (z.t + m) ≤ ((pre ++ ((s.data.toList.drop d).take (z.t.toNat - d) ++ madeF s.data.toList z.t.toNat (M.filter p))).length : Int) := by
        simp only [List.length_append, hlen1]; omega
      refine ⟨⟨by show (pre.length : Int) ≤ z.f + m; omega, by show z.f + m ≤ z.t + m; omega, hTl, i1⟩, ?_⟩
      show ((pre ++ _).drop pre.length).take ((z.f + m).toNat - pre.length) ++ z.s.data.toList ++ madeF _ (z.t + m).toNat _ = _
      rw [i2, List.drop_left, hsplit, List.append_assoc, List.append_assoc, List.take_append_of_le_length (by omega), List.take_of_length_le (by omega)]
      simp only [madeF, List.append_assoc]

theorem filter_ord (a M : List Ed) (hM : M.Pairwise ltE) (h : ∀ x ∈ a, x ∈ M) : M.filter (fun x => decide (x ∈ a)) = ordF a := by
  refine ordF_of_sorted (hM.filter _) (fun x => ?_)
  rw [List.mem_filter]
  simp only [decide_eq_true_eq]
  exact ⟨fun g => g.2, fun g => ⟨h x g, g⟩⟩

theorem filter_sub_length (p q : Ed → Bool) : ∀ (a b : List Ed) (m : Int), (overF a b m).length ≤ b.length
  | a, [], m => by rw [overF_nil]; exact Nat.le_refl _
  | [], x :: b, m => by
    rw [overF]; have := filter_sub_length p q [] b m; simp only [List.length_cons]; omega
  | y :: a, x :: b, m => by
    rw [overF]
    have h1 := filter_sub_length p q a (x :: b) (m + (y.s.size - (y.t - y.f)))
    have h2 := filter_sub_length p q (y :: a) b m
    simp only [List.length_cons] at *
    split
    · omega
    · split
      · omega
      · simp only [List.length_cons]; omega
termination_by a b => a.length + b.length

/-- Over's edits -/
def overE (a b : List Ed) : List Ed := joinF (overF (ordF a) (ordF b) 0)

theorem over_ok {s : ByteArray} {a b : List Ed} (ha : applF s.size a = 0) (hab : applF s.size (a ++ b) = 0) :
    applF (behind s a).size (overE a b) = 0 ∧ behind (behind s a) (overE a b) = behind s (a ++ b) ∧ (overE a b).length ≤ b.length ∧ (∀ x ∈ overE a b, x.s.size ≤ 200000) := by
  obtain ⟨h1, h2⟩ := applF_zero hab
  obtain ⟨r1, r2, _, _⟩ := fineF_range h1
  have hch := chain_fine h1
  have hM := sorted_ordF (a ++ b)
  have fa := filter_ord a (ordF (a ++ b)) hM (fun x hx => (mem_ordF x _).2 (by simp [hx]))
  have fb := filter_ord b (ordF (a ++ b)) hM (fun x hx => (mem_ordF x _).2 (by simp [hx]))
  have hM' : (ordF (a ++ b)).Pairwise (fun a b => ltE' a b = true) := hM.imp (fun h => (ltE'_iff _ _).2 h)
  obtain ⟨i1, i2⟩ := over_made s (fun x => decide (x ∈ a)) (fun x => decide (x ∈ b)) (ordF (a ++ b)) 0 0 [] (fun x hx => by
    have := (mem_ordF x _).1 hx
    simpa using this) hM' (Nat.zero_le _) hch rfl
  rw [fa, fb] at i1 i2
  simp only [List.nil_append, List.length_nil] at i1 i2
  rw [← behind_toL] at i1 i2
  have hb := behind_size ha
  obtain ⟨j1, j2⟩ := joinF_same (behind s a).data.toList (behind s a).data.toList.length _ _ 0 (Nat.le_refl _) i1
  have hst := joinF_str _ (overF (ordF a) (ordF b) 0) (Nat.le_refl _)
  have hlen := joinF_length _ (overF (ordF a) (ordF b) 0) (Nat.le_refl _)
  have hlen2 := filter_sub_length (fun _ => true) (fun _ => true) (ordF a) (ordF b) 0
  have hlo := length_ordF b
  rw [size_toL] at j1
  rw [List.length_append] at r2
  obtain ⟨k1, k2⟩ := fine_chain (n := (behind s a).size) (l := overE a b) hb (by unfold overE; omega) j1 hst
  have hm : madeF (behind s a).data.toList 0 (overE a b) = (behind s (a ++ b)).data.toList := by rw [behind_toL s (a ++ b)]; unfold overE; rw [j2, i2]
  have hml := madeF_length (behind s a).data.toList (overE a b) 0 (Nat.zero_le _) (by rw [size_toL]; exact j1)
  have hbs := behind_size hab
  rw [hm, size_toL, size_toL] at hml
  refine ⟨?_, ?_, by unfold overE; omega, fun x hx => ?_⟩
  · unfold applF
    rw [if_neg (fun g => g k1), k2, if_neg (by omega)]
  · refine ba_ext ?_
    rw [behind_toL, k2, hm]
  · have := text_le_made (behind s a).data.toList (overE a b) 0 x hx
    rw [hm, size_toL] at this
    omega

end Go.Proofs.YtihnafocjognaaaGreatDoor
