/- Lex: the bytes of a list's text, a byte's token, a list's text: over the tokens of a text. -/
import Derived.Test.YtcbmkkndbeiknaaDoorLexP
import Derived.Test.YtcbmkkndbeiknaaDoorBuilder
import Derived.RegionTactic
import Derived.Shelf.Abstract
namespace Go.Proofs.YtcbmkkndbeiknaaDoor
open Go.RowKit Go.Shelf

theorem ext_take0 (s : ByteArray) (i : Nat) : (s.extract 0 i).data.toList.length ≤ s.size := by
  have : (s.extract 0 i).size ≤ s.size := by rw [ByteArray.size_extract]; omega
  rw [Array.length_toList]; exact this
theorem ext_join (s : ByteArray) (p a q : Nat) (h1 : p ≤ a) (h2 : a ≤ q) : s.extract p a ++ s.extract a q = s.extract p q := by
  rw [ByteArray.extract_append_extract, Nat.min_eq_left h1, Nat.max_eq_right h2]
theorem ext_size (s : ByteArray) (p a : Nat) (h : a ≤ s.size) : (s.extract p a).size = a - p := by
  rw [ByteArray.size_extract]; omega

set_option maxHeartbeats 1000000 in
set_option maxRecDepth 100000 in
theorem wholeSize_laid (s : ByteArray) (hs : s.size ≤ 200000) (l : List Tk) (hl : l.length ≤ 40000) (P : Nat → Nat) (hP0 : P 0 = 0) (hL : Laid s l P) (A : Option Addr) (c : Nat) (w : World) (h : TRd w w.heap.size A l) :
    Calls Tryd.prog 53 #[.slice A l.length c] w fun e w' => e = .returned (.tuple #[.int .i64 s.size, .bool true]) ∧ Below w.heap.size w w' := by
  have HL := Lib.hid hL
  have HR := Lib.hid h
  have HLL := Lib.hid hl
  have HS := Lib.hid hs
  have hlI : (l.length : Int) ≤ 40000 := by omega
  have hp : 0 < l.length := hL.pos
  clear hL h hl hs
  go_enter Tryd.func53, Tryd.ntmps53
  go_wp2_with fail
  go_loopw [2, 12] (fun sz i wr => ∃ k : Nat, k ≤ l.length ∧ sz = .int .i64 (P k) ∧ i = .int .i64 k ∧ Below w.heap.size w wr) (fun _ i _ => l.length - (intOf i).toNat)
  case atStart => exact ⟨0, Nat.zero_le _, by rw [hP0]; rfl, rfl, Below.refl _ _⟩
  case round =>
    obtain ⟨k, hk, rfl, rfl, hb⟩ := hrel
    by_cases hlt : k < l.length
    · obtain ⟨b, off, rfl, hB, c0, c1, c2, c3⟩ := (HR.out.below hb).at_ k hlt
      have h1 := HL.out.lo k hlt
      have h2 := HL.out.hi k hlt
      have h3 := HL.out.b k hlt
      have h4 := HL.out.x k hlt
      have hs1 := HS.out
      have e1' : l[k].b.size = l[k].a - P k := by rw [h3, ext_size _ _ _ (by omega)]
      have e2' : l[k].x.size = P (k + 1) - l[k].a := by rw [h4, ext_size _ _ _ (by omega)]
      have hkk : (k + 1 = l.length ∧ l[k].k = 0) ∨ (k + 1 < l.length ∧ 1 ≤ l[k].k ∧ l[k].k ≤ 8) := by
        by_cases g : k + 1 = l.length
        · exact .inl ⟨g, (HL.out.last k hlt g).1⟩
        · have := HL.out.mid k (by omega)
          exact .inr ⟨by omega, this.1, this.2.1⟩
      clear h3 h4
      generalize l[k].b = tb at *
      generalize l[k].x = tx at *
      generalize l[k].a = ta at *
      generalize l[k].k = tk at *
      generalize hqk : P (k + 1) = q at *
      generalize hpk : P k = p at *
      have hltI : (k : Int) < l.length := by omega
      obtain ⟨bl, rfl⟩ := Nat.le.dest h1
      obtain ⟨xl, rfl⟩ := Nat.le.dest h2.1
      have e1 : tb.size = bl := by omega
      have e2 : tx.size = xl := by omega
      have i3 : ((p + bl : Nat) : Int) = p + bl := by omega
      have hs2 : p + bl + xl ≤ 200000 := by omega
      rcases hkk with ⟨g1, rfl⟩ | ⟨g1, g2, g3⟩
      · have i1 : (l.length : Int) - 1 = k := by omega
        go_wp2
        go_roundw
        case rel => exact ⟨k + 1, by omega, by rw [hqk]; go_num, by go_num, hb.alloc hb.size _⟩
        case measure => simp [intOf]; omega
      · have i1 : ¬ (k : Int) = l.length - 1 := by omega
        have i2 : ¬ (tk : Int) = 0 := by omega
        have i4 : ((tk : Int) == 0) = false := by simp; omega
        have i5 : ((k : Int) == (l.length : Int) - 1) = false := by simp; omega
        go_wp2
        go_roundw
        case rel => exact ⟨k + 1, by omega, by rw [hqk]; go_num, by go_num, hb.alloc hb.size _⟩
        case measure => simp [intOf]; omega
    · have hk2 : k = l.length := by omega
      subst hk2
      rw [HL.out.top]
      have hlt2 : l.length - 1 < l.length := by omega
      obtain ⟨b, off, rfl, hB, c0, c1, c2, c3⟩ := (HR.out.below hb).at_ (l.length - 1) hlt2
      have h4 := HL.out.x (l.length - 1) hlt2
      rw [(HL.out.last _ hlt2 (by omega)).2, show l.length - 1 + 1 = l.length by omega, HL.out.top] at h4
      have h5 : l[l.length - 1].x = ByteArray.empty := by
        rw [h4]; apply ByteArray.ext; rw [ByteArray.data_extract]; simp
      have h5' : l[l.length - 1].x = (⟨#[]⟩ : ByteArray) := h5
      rw [h5'] at c2
      clear h4 h5 h5' c0 c1 c3
      have g0 : (0 : Int) < l.length := by omega
      have g1 : ((l.length : Int) - 1) = ((l.length - 1 : Nat) : Int) := by omega
      have g2 : ¬ (l.length : Int) < l.length := by omega
      go_wp2
      go_region
      go_wp2
      go_ret2
      exact ⟨rfl, hb.drew⟩

set_option maxHeartbeats 1000000 in
set_option maxRecDepth 100000 in
theorem at_laid (s : ByteArray) (hs : s.size ≤ 200000) (l : List Tk) (hl : l.length ≤ 40000) (P : Nat → Nat) (hP0 : P 0 = 0) (hL : Laid s l P) (j : Nat) (hj : j < l.length) (ta : Nat) (hta : ta = l[j].a) (A : Option Addr) (c : Nat) (w : World) (h : TRd w w.heap.size A l) :
    Calls Tryd.prog 23 #[.slice A l.length c, .int .i64 ta] w fun e w' => e = .returned (.tuple #[.int .i64 j, .int .i64 0]) ∧ Below w.heap.size w w' := by
  have W1 := wholeSize_laid s hs l hl P hP0 hL A c w h
  have HW := Lib.hid W1
  have HL := Lib.hid hL
  have HR := Lib.hid h
  have HLL := Lib.hid hl
  have HS := Lib.hid hs
  have hlI : (l.length : Int) ≤ 40000 := by omega
  have q1 : ¬ (s.size : Int) < ta := by have := hL.hi j hj; omega
  have hj1 := hL.hi j hj
  have hj0 := hL.lo j hj
  rw [← hta] at hj1 hj0
  have HTA := Lib.hid hta
  have HJ := Lib.hid (And.intro hj0 hj1.1)
  clear hL h hl hs hta W1 hj1 hj0
  go_enter Tryd.func23, Tryd.ntmps23
  go_wp2_with fail
  refine HW.out.mono ?_
  rintro e w1 ⟨rfl, hb1⟩
  have HB1 := Lib.hid hb1
  clear hb1 HW
  go_wp2_with fail
  go_loopw [8] (fun i wr => ∃ k : Nat, j ≤ k ∧ k < l.length ∧ i = .int .i64 k ∧ Below w.heap.size w wr) (fun i _ => (intOf i).toNat)
  case atStart => exact ⟨l.length - 1, by omega, by omega, by go_num, HB1.out⟩
  case round =>
    obtain ⟨k, hjk, hk, rfl, hb⟩ := hrel
    obtain ⟨b, off, rfl, hB, c0, c1, c2, c3⟩ := (HR.out.below hb).at_ k hk
    have h1 := HL.out.lo k hk
    have h2 := HL.out.hi k hk
    have h3 := HL.out.b k hk
    have hs1 := HS.out
    have e1' : l[k].b.size = l[k].a - P k := by rw [h3, ext_size _ _ _ (by omega)]
    have hm : j = k ∨ (j < k ∧ ta < P k) := by
      by_cases g : j = k
      · exact .inl g
      · have h5 := HL.out.mono k (j + 1) (by omega) (by omega)
        have h6 := (HL.out.mid j (by omega)).2.2
        rw [← HTA.out] at h6
        exact .inr ⟨by omega, by omega⟩
    have hta : j = k → P k ≤ ta := by
      rintro rfl
      exact HJ.out.1
    clear h3
    generalize l[k].b = tb at *
    generalize l[k].x = tx at *
    generalize l[k].a = za at *
    generalize l[k].k = tk at *
    generalize hpk : P k = p at *
    have hltI : (k : Int) < l.length := by omega
    obtain ⟨bl, rfl⟩ := Nat.le.dest h1
    have e1 : tb.size = bl := by omega
    have i3 : ((p + bl : Nat) : Int) = p + bl := by omega
    have i4 : (p : Int) + bl - bl = p := by omega
    rcases hm with rfl | ⟨g1, g2⟩
    · have g3 : ¬ (ta : Int) < p := by have := hta rfl; omega
      go_wp2
      go_region
      go_wp2
      go_ret2
      exact ⟨rfl, hb.drew⟩
    · have g3 : (ta : Int) < p := by omega
      go_wp2
      go_region
      go_wp2
      go_roundw
      case rel => exact ⟨k - 1, by omega, by omega, by go_num, hb.drew⟩
      case measure => simp [intOf]; omega

set_option maxHeartbeats 1000000 in
set_option maxRecDepth 100000 in
theorem text_laid (s : ByteArray) (hs : s.size ≤ 200000) (l : List Tk) (hl : l.length ≤ 40000) (P : Nat → Nat) (hP0 : P 0 = 0) (hL : Laid s l P) (A : Option Addr) (c : Nat) (w : World) (h : TRd w w.heap.size A l) :
    Calls Tryd.prog 25 #[.slice A l.length c] w fun e w' => e = .returned (.string s) ∧ Below w.heap.size w w' := by
  have HL := Lib.hid hL
  have HR := Lib.hid h
  have HLL := Lib.hid hl
  have HS := Lib.hid hs
  have hlI : (l.length : Int) ≤ 40000 := by omega
  have hp : 0 < l.length := hL.pos
  clear hL h hl hs
  go_enter Tryd.func25, Tryd.ntmps25
  go_wp2_with fail
  have hB0 := Bld.new w
  go_loopw [8] (fun i wr => ∃ k : Nat, k ≤ l.length ∧ i = .int .i64 k ∧ Bld wr w.heap.size w.heap.size (s.extract 0 (P k)).data.toList ∧ Below w.heap.size w wr) (fun i _ => l.length - (intOf i).toNat)
  case atStart => exact ⟨0, Nat.zero_le _, rfl, by rw [hP0]; exact (by simpa using hB0), (Below.refl _ _).alloc (Nat.le_refl _) _⟩
  case round =>
    clear hB0
    obtain ⟨k, hk, rfl, hbl, hb⟩ := hrel
    by_cases hlt : k < l.length
    · obtain ⟨b, off, rfl, hB, c0, c1, c2, c3⟩ := (HR.out.below hb).at_ k hlt
      have h1 := HL.out.lo k hlt
      have h2 := HL.out.hi k hlt
      have h3 := HL.out.b k hlt
      have h4 := HL.out.x k hlt
      have hs1 := HS.out
      have e1' : l[k].b.size = l[k].a - P k := by rw [h3, ext_size _ _ _ (by omega)]
      have e2' : l[k].x.size = P (k + 1) - l[k].a := by rw [h4, ext_size _ _ _ (by omega)]
      have j1 : (s.extract 0 (P k)).data.toList ++ l[k].b.data.toList = (s.extract 0 l[k].a).data.toList := by
        rw [h3, ← ext_join s 0 (P k) l[k].a (Nat.zero_le _) h1, ByteArray.data_append, Array.toList_append]
      have j2 : (s.extract 0 l[k].a).data.toList ++ l[k].x.data.toList = (s.extract 0 (P (k + 1))).data.toList := by
        rw [h4, ← ext_join s 0 l[k].a (P (k + 1)) (Nat.zero_le _) h2.1, ByteArray.data_append, Array.toList_append]
      have z1 : (s.extract 0 (P k)).data.toList.length ≤ 200000 := by
        have := ext_take0 s (P k); omega
      have z2 : (s.extract 0 l[k].a).data.toList.length ≤ 200000 := by
        have := ext_take0 s l[k].a; omega
      have zb : l[k].b.size ≤ 200000 := by omega
      have zx : l[k].x.size ≤ 200000 := by omega
      clear h3 h4 h1 h2 e1' e2' hs1
      generalize l[k].b = tb at *
      generalize l[k].x = tx at *
      generalize (s.extract 0 l[k].a).data.toList = d1 at *
      generalize l[k].a = ta at *
      generalize l[k].k = tk at *
      generalize hd2 : (s.extract 0 (P (k + 1))).data.toList = d2 at *
      generalize (s.extract 0 (P k)).data.toList = d0 at *
      have hltI : (k : Int) < l.length := by omega
      have hL := hbl.lt
      go_wp2_with fail
      have hx := heap_alloc_new wr (Obj.cells #[Value.int IntKind.i64 ↑tk, Value.string tb, Value.string tx, Value.int IntKind.i64 ↑ta] 49)
      refine (writeString_any w.heap.size w.heap.size d0 tb _ (hbl.alloc _) (by omega) (by simp; omega)).mono ?_
      rintro e w2 ⟨rfl, hbl2, hk2⟩
      have hx2 := hk2.block hx (by omega) (by decide)
      have cx2 : w2.cell? ⟨wr.heap.size, 2, none⟩ = some (.string tx) := cell_of_row w2 _ _ _ _ (0, 0) hx2
      have hsz2 : w.heap.size ≤ w2.heap.size := by have := hbl2.lt; omega
      rw [j1] at hbl2
      clear hx hx2 c0 c1 c2 c3
      go_wp2_with fail
      refine (writeString_any w.heap.size w.heap.size d1 tx _ hbl2 (by omega) hsz2).mono ?_
      rintro e w3 ⟨rfl, hbl3, hk3⟩
      rw [j2] at hbl3
      have HB3 := Lib.hid (((hb.alloc (by omega) _).trans hk2.1).trans hk3.1)
      clear cx2 hb hk2 hk3 hbl hbl2
      go_wp2
      go_roundw
      case rel => exact ⟨k + 1, by omega, by go_num, by rw [hd2]; exact hbl3, HB3.out⟩
      case measure => simp [intOf]; omega
    · have hk2 : k = l.length := by omega
      subst hk2
      rw [HL.out.top] at hbl
      have e0 : s.extract 0 s.size = s := ByteArray.extract_zero_size
      rw [e0] at hbl
      have hL := hbl.lt
      have g2 : ¬ (l.length : Int) < l.length := by omega
      go_wp2_with fail
      refine (bstring_any w.heap.size w.heap.size _ _ hbl (by omega)).mono ?_
      rintro e w3 ⟨rfl, hk3⟩
      go_wp2
      go_ret
      exact ⟨rfl, hb.trans hk3.1⟩

end Go.Proofs.YtcbmkkndbeiknaaDoor
