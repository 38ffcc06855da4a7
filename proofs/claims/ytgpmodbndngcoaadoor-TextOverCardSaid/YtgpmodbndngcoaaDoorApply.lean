import Derived.Test.YtgpmodbndngcoaaDoorAppl
import Derived.Test.YtgpmodbndngcoaaDoorBuild
namespace Go.Proofs.YtgpmodbndngcoaaDoor
open Go.RowKit Go.Sort

theorem extract_toList (s : ByteArray) (i j : Nat) : (s.extract i j).data.toList = (s.data.toList.drop i).take (j - i) := by
  rw [ByteArray.data_extract, Array.toList_extract]

theorem extract_size (s : ByteArray) (i j : Nat) : (s.extract i j).size ≤ s.size := by
  rw [ByteArray.size_extract]; omega

/-- the text behind edits in order, from place d on -/
def madeF (s : List UInt8) : Nat → List Ed → List UInt8
  | d, [] => s.drop d
  | d, x :: l => (s.drop d).take (x.f.toNat - d) ++ x.s.data.toList ++ madeF s x.t.toNat l

theorem madeF_cons (s : List UInt8) (d : Nat) (x : Ed) (l : List Ed) : madeF s d (x :: l) = (s.drop d).take (x.f.toNat - d) ++ x.s.data.toList ++ madeF s x.t.toNat l := rfl

/-- edits one behind the other, from place d on -/
def Chain (n : Nat) : Nat → List Ed → Prop
  | _, [] => True
  | d, x :: l => (d : Int) ≤ x.f ∧ x.f ≤ x.t ∧ x.t ≤ n ∧ Chain n x.t.toNat l

theorem chain_of (n : Nat) : ∀ (l : List Ed) (d : Nat) (e p : Int), l.Pairwise ltE → (∀ x ∈ l, rangeOk n x) → ((d : Int) = e ∨ ∀ x ∈ l, (d : Int) ≤ x.f) → clashGo l e p = false → Chain n d l
  | [], _, _, _, _, _, _, _ => trivial
  | x :: l, d, e, p, hs, hr, hd, hc => by
    have hx := hr x (by simp)
    unfold rangeOk at hx
    obtain ⟨x1, x2, x3⟩ := hx
    unfold clashGo at hc
    by_cases c1 : x.f < e ∨ (x.f = x.t ∧ x.f = p)
    · rw [if_pos c1] at hc; cases hc
    · rw [if_neg c1] at hc
      have hdf : (d : Int) ≤ x.f := by
        rcases hd with hd | hd
        · omega
        · exact hd x (by simp)
      refine ⟨hdf, x2, x3, ?_⟩
      rw [List.pairwise_cons] at hs
      by_cases c2 : x.f = x.t
      · rw [if_pos c2] at hc
        refine chain_of n l _ e x.f hs.2 (fun y hy => hr y (by simp [hy])) (.inr fun y hy => ?_) hc
        have := hs.1 y hy
        unfold ltE at this
        omega
      · rw [if_neg c2] at hc
        exact chain_of n l _ x.t p hs.2 (fun y hy => hr y (by simp [hy])) (.inl (by omega)) hc

theorem chain_fine {n : Nat} {l : List Ed} (h : fineF n l = 0) : Chain n 0 (ordF l) := by
  obtain ⟨_, _, r3, r4⟩ := fineF_range h
  exact chain_of n _ 0 0 (-1) (sorted_ordF l) (fun x hx => r3 x ((mem_ordF x l).1 hx)) (.inl rfl) r4

theorem madeF_length (s : List UInt8) : ∀ (l : List Ed) (d : Nat), d ≤ s.length → Chain s.length d l → ((madeF s d l).length : Int) = s.length - d + gsum l
  | [], d, hd, _ => by simp [madeF, gsum]; omega
  | x :: l, d, hd, hc => by
    obtain ⟨h1, h2, h3, h4⟩ := hc
    have ih := madeF_length s l x.t.toNat (by omega) h4
    have e : x.s.data.toList.length = x.s.size := by simp
    simp only [madeF, List.length_append, List.length_take, List.length_drop, gsum, e]
    omega

theorem chain_drop (n : Nat) : ∀ (l : List Ed) (k : Nat) (d : Nat), Chain n d l → (h : k < l.length) → ∃ d', Chain n d' (l.drop k)
  | _, 0, d, hc, _ => ⟨d, hc⟩
  | [], k + 1, _, _, h => by simp at h
  | x :: l, k + 1, _, hc, h => chain_drop n l k _ hc.2.2.2 (by simpa using h)

set_option maxHeartbeats 1000000 in
set_option maxRecDepth 100000 in
theorem apply_any (s : ByteArray) (v : Value) (l : List Ed) (w : World) (hs : s.size ≤ 140737488355328) (hl : l.length ≤ 1000000) (hT : SmallT l) (h : IsE w v l) :
    Calls Tryd.prog 19 #[.string s, v] w fun e w' => e = .returned (.tuple #[.string (if applF s.size l = 0 then ⟨(madeF s.data.toList 0 (ordF l)).toArray⟩ else ⟨#[]⟩), .int .i64 (applF s.size l)]) ∧ Below w.heap.size w w' := by
  have ha := applicable_any s v l w hs hl hT h
  by_cases h0 : applF s.size l = 0
  · have hf0 : fineF s.size l = 0 := by
      unfold applF at h0
      by_cases g : fineF s.size l ≠ 0
      · rw [if_pos g] at h0; exact absurd h0 g
      · exact Classical.not_not.1 g
    obtain ⟨r1, r2, r3, r4⟩ := fineF_range hf0
    have hch := chain_fine hf0
    have hsz : s.data.toList.length = s.size := by simp
    have hml := madeF_length s.data.toList (ordF l) 0 (Nat.zero_le _) (by rw [hsz]; exact hch)
    have hlim : (s.size : Int) + gsum (ordF l) ≤ 200000 := by
      unfold applF at h0
      rw [if_neg (fun g => g hf0)] at h0
      by_cases g : 200000 < (s.size : Int) + gsum (ordF l)
      · rw [if_pos g] at h0; omega
      · omega
    have hm2 : (madeF s.data.toList 0 (ordF l)).length ≤ 200000 := by rw [hsz] at hml; omega
    have hlo := length_ordF l
    have hT' := hT.ord
    rw [if_pos h0, h0]
    rw [h0, show applL s.size l = ordF l by unfold applL; rw [if_pos h0]] at ha
    have hlo2 : (ordF l).length ≤ 10000 := by omega
    generalize ordF l = L at *
    have HA := Lib.hid ha
    have HC := Lib.hid hch
    have HT := Lib.hid hT'
    have HM := Lib.hid hm2
    have HSZ := Lib.hid hsz
    clear ha h h0 hf0 r3 r4 hch hsz hml hlim hT hT' hm2 hlo
    go_enter Tryd.func19, Tryd.ntmps19
    go_wp2_with (go_at_call 55; refine HA.out.mono ?_; rintro e w1 ⟨v', rfl, ⟨A, c, rfl, hA, g1, g2, hE⟩, hb1⟩)
    have HE := Lib.hid hE
    clear hA g2 HA hE
    go_wp2
    have hB0 := Bld.new w1
    go_loopw [9, 23] (fun dn i wr => ∃ (k d : Nat) (acc : List UInt8), k ≤ L.length ∧ dn = .int .i64 d ∧ i = .int .i64 k ∧ d ≤ s.size ∧ Hid (Chain s.size d (L.drop k)) ∧ Hid (acc ++ madeF s.data.toList d (L.drop k) = madeF s.data.toList 0 L) ∧ Bld wr w1.heap.size w1.heap.size acc ∧ Below w1.heap.size w1 wr) (fun _ i _ => L.length - (intOf i).toNat)
    case atStart => exact ⟨0, 0, [], Nat.zero_le _, rfl, rfl, Nat.zero_le _, HC.out, rfl, hB0, (Below.refl _ _).alloc (Nat.le_refl _) _⟩
    case round =>
      clear hB0
      obtain ⟨k, d, acc, hk, rfl, rfl, hd, hch, hm, hbl, hb⟩ := hrel
      by_cases hlt : k < L.length
      · obtain ⟨b, off, rfl, hB, c0, c1, c2⟩ := (HE.out.below hb).at_ k hlt
        have hmem : L[k] ∈ L := List.getElem_mem hlt
        have q2 := HT.out _ hmem
        have hch1 := hch.out
        have hm1 := hm.out
        rw [List.drop_eq_getElem_cons hlt] at hch1 hm1
        obtain ⟨h1, h2, h3, h4⟩ := hch1
        rw [madeF_cons] at hm1
        generalize L[k].f = f at *
        generalize L[k].t = t at *
        generalize L[k].s = x at *
        obtain ⟨fn, rfl⟩ := Int.eq_ofNat_of_zero_le (show 0 ≤ f by omega)
        obtain ⟨tn, rfl⟩ := Int.eq_ofNat_of_zero_le (show 0 ≤ t by omega)
        have h1 : d ≤ fn := by omega
        have h2 : fn ≤ tn := by omega
        have h3 : tn ≤ s.size := by omega
        have hacc : acc.length ≤ 200000 := by
          have := HM.out; have e := congrArg List.length hm1; simp only [List.length_append] at e; omega
        have H4 := Lib.hid h4
        have HM1 := Lib.hid hm1
        have hL := hbl.lt
        clear hch hm h4 hm1 hmem
        go_wp2_with fail
        have hx := heap_alloc_new wr (Obj.cells #[Value.int IntKind.i64 ↑fn, Value.int IntKind.i64 ↑tn, Value.string x] 46)
        have hxs := extract_size s d fn
        refine (writeString_any w1.heap.size w1.heap.size acc (s.extract d fn) _ (hbl.alloc _) (by omega) (by simp; omega)).mono ?_
        rintro e w2 ⟨rfl, hbl2, hk2⟩
        have hx2 := hk2.block hx (by omega) (by decide)
        have cx2 : w2.cell? ⟨wr.heap.size, 2, none⟩ = some (.string x) := cell_of_row w2 _ _ _ _ (0, 0) hx2
        have hsz2 : w1.heap.size ≤ w2.heap.size := by have := hbl2.lt; omega
        have HX2 := Lib.hid hx2
        clear hx hx2 c0 c1 c2
        go_wp2_with fail
        refine (writeString_any w1.heap.size w1.heap.size _ x _ hbl2 (by rw [List.length_append, extract_toList, List.length_take, List.length_drop]; omega) hsz2).mono ?_
        rintro e w3 ⟨rfl, hbl3, hk3⟩
        have hx3 := hk3.block HX2.out (by omega) (by decide)
        have cx3 : w3.cell? ⟨wr.heap.size, 1, none⟩ = some (.int .i64 tn) := cell_of_row w3 _ _ _ _ (0, 0) hx3
        have HB3 := Lib.hid (((hb.alloc (by omega) _).trans hk2.1).trans hk3.1)
        clear hx3 cx2 hb hk2 hk3 hbl hbl2
        go_wp2
        go_roundw
        case rel =>
          refine ⟨k + 1, tn, _, by omega, by go_num, by go_num, h3, H4.out, ?_, hbl3, HB3.out⟩
          unfold Hid
          rw [← HM1.out, extract_toList]
          simp only [Int.toNat_natCast, List.append_assoc]
        case measure => simp [intOf]; omega
      · have hm1 := hm.out
        rw [List.drop_eq_nil_of_le (by omega)] at hm1
        have hacc : acc.length ≤ 200000 := by
          have := HM.out; have e := congrArg List.length hm1; simp only [List.length_append] at e; omega
        have hm2 : acc ++ (s.extract d s.size).data.toList = madeF s.data.toList 0 L := by
          rw [← hm1, extract_toList, List.take_of_length_le (by simp)]
          rfl
        have HM2 := Lib.hid hm2
        have hxs := extract_size s d s.size
        have hL := hbl.lt
        have hsz := HSZ.out
        clear hm hm1 hm2 hch
        go_wp2_with fail
        refine (writeString_any w1.heap.size w1.heap.size acc (s.extract d s.size) _ hbl (by omega) (by omega)).mono ?_
        rintro e w2 ⟨rfl, hbl2, hk2⟩
        rw [HM2.out] at hbl2
        have hL2 := hbl2.lt
        go_wp2_with fail
        refine (bstring_any w1.heap.size w1.heap.size _ _ hbl2 (by omega)).mono ?_
        rintro e w3 ⟨rfl, hk3⟩
        go_wp2
        go_ret2
        exact ⟨rfl, hb1.trans (((hb.trans hk2.1).trans hk3.1).mono hb1.size)⟩
  · rw [if_neg h0]
    have hal : applL s.size l = [] := by unfold applL; rw [if_neg h0]
    rw [hal] at ha
    generalize applF s.size l = E at *
    have HA := Lib.hid ha
    have hne : (E != 0) = true := by simp [h0]
    clear ha h hT hal
    go_enter Tryd.func19, Tryd.ntmps19
    go_wp2_with (go_at_call 55; refine HA.out.mono ?_; rintro e w1 ⟨v', rfl, hI, hb1⟩)
    go_ret2
    exact ⟨rfl, hb1⟩

end Go.Proofs.YtgpmodbndngcoaaDoor
