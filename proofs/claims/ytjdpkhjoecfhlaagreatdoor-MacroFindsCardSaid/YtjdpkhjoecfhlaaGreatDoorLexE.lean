/- Lex: the scanner's tellers of quotes. -/
import Derived.Test.YtjdpkhjoecfhlaaGreatDoorLexD
namespace Go.Proofs.YtjdpkhjoecfhlaaGreatDoor
open Go.RowKit Go.Maps Go.Shelf

/-- what quoted tells at a place, and up to where quotes are odd then -/
def quoTl (q : UInt8) (o i : Nat) (l : List UInt8) : Nat × Nat :=
  if l.head? ≠ some q ∨ i < o then (0, o) else if (quoN l).2 = true then ((quoN l).1, o) else (0, i + (quoN l).1)

set_option maxHeartbeats 4000000 in
set_option maxRecDepth 100000 in
theorem quoted_any4 (q : UInt8) (p K T oc os i : Nat) (f : Bool) (s : ByteArray) (w : World) (hi : i < s.size) (hs : s.size ≤ 4000000) (_ho : oc ≤ 4000000) (h : ScB w p s i K f oc os T) :
    Calls Tryz.prog 140 #[.pointer (some ⟨p, 0, none⟩), .int .u8 q.toNat, .pointer (some ⟨p, 4, none⟩)] w fun e w' => e = .returned (.int .i64 (quoTl q oc i (s.data.toList.drop i)).1) ∧
      w.grownBy w' (some p) ∧ ScB w' p s i K f (quoTl q oc i (s.data.toList.drop i)).2 os T := by
  have c0 := h.c0
  have c1 := h.c1
  have c4 := h.c4
  have HSC := Lib.hid h
  have hh := head_at s i hi
  have en : ∀ args w, (callFunc 204 args).run Tryz.prog w = .ok (.enter 204 args) w := enters_of Tryz.func204 (by kernel_rfl) rfl
  have L1 := fun W => quotedSize_any (s.extract i s.size) W (by rw [ByteArray.size_extract]; omega) (by rw [ByteArray.size_extract]; omega)
  rw [ext_drop] at L1
  have hqn := quoN_le (s.data.toList.drop i) (by rw [drop_at s i hi]; simp)
  have hdl : (s.data.toList.drop i).length = s.size - i := by simp
  rw [hdl] at hqn
  have q1 : (0 : Int) ≤ i := by omega
  have q2 : (i : Int) < s.size := by omega
  have q3 : (i : Int) ≤ s.size := by omega
  unfold quoTl
  rw [hh]
  by_cases g1 : s[i]'hi = q
  · have k1 : ((((s[i]'hi).toNat : Nat) : Int) != ((q.toNat : Nat) : Int)) = false := by rw [g1]; simp
    by_cases g2 : i < oc
    · rw [if_pos (.inr g2)]
      have k2 : decide ((i : Int) < (oc : Int)) = true := by simp; omega
      have k3 : (i : Int) < (oc : Int) := by omega
      clear hh en h L1 hqn hdl g1 g2
      go_enter Tryz.func140, Tryz.ntmps140
      go_wp2_with fail
      go_quiet (fail)
      go_wp2
      go_ret
      exact ⟨rfl, grownBy_drewN _ _ _, HSC.out⟩
    · rw [if_neg (fun g => g.elim (fun g => g (by rw [g1])) g2)]
      have k2 : decide ((i : Int) < (oc : Int)) = false := by simp; omega
      have k3 : ¬ (i : Int) < (oc : Int) := by omega
      generalize (quoN (s.data.toList.drop i)).1 = n at *
      generalize (quoN (s.data.toList.drop i)).2 = b at *
      have HL := Lib.hid L1
      clear hh h L1 g1 g2 hdl
      have hn2 : n ≤ 4000000 := by omega
      clear hqn
      cases b
      · rw [if_neg (by simp)]
        go_enter Tryz.func140, Tryz.ntmps140
        go_wp2_with fail
        go_quiet (fail)
        have hS2 : ScB (w.drewN nq) p s i K f oc os T := HSC.out
        have hG : w.grownBy (w.drewN nq) (some p) := grownBy_drewN _ _ _
        have HS2 := Lib.hid hS2
        have HG := Lib.hid hG
        clear c0 c1 c4 HSC hS2 hG
        generalize w.drewN nq = w2 at *
        have c0 := HS2.out.c0
        have c1 := HS2.out.c1
        go_wp2_with fail
        go_quiet (first | (go_at_call 204; exact Calls.quiet_of_same (HL.out _)))
        have hS3 : ScB (w2.drewN nq) p s i K f oc os T := HS2.out
        have hG3 : w.grownBy (w2.drewN nq) (some p) := grownBy_trans HG.out (grownBy_drewN _ _ _)
        have HS3 := Lib.hid hS3
        have HG3 := Lib.hid hG3
        clear c0 c1 HS2 HG hS3 hG3
        generalize w2.drewN nq = w3 at *
        have c1 := HS3.out.c1
        have c4 := HS3.out.c4
        have fz := Blk.frozen HS3.out 4
        go_wp2
        go_ret
        exact ⟨rfl, grownBy_trans HG3.out (grownBy_setCellJ w3 p 4 _), by have := Blk.set HS3.out 4 (.int .i64 ((i + n : Nat) : Int)); simpa [ScB] using this⟩
      · rw [if_pos rfl]
        go_enter Tryz.func140, Tryz.ntmps140
        go_wp2_with fail
        go_quiet (fail)
        have hS2 : ScB (w.drewN nq) p s i K f oc os T := HSC.out
        have hG : w.grownBy (w.drewN nq) (some p) := grownBy_drewN _ _ _
        have HS2 := Lib.hid hS2
        have HG := Lib.hid hG
        clear c0 c1 c4 HSC hS2 hG
        generalize w.drewN nq = w2 at *
        have c0 := HS2.out.c0
        have c1 := HS2.out.c1
        go_wp2_with fail
        go_quiet (first | (go_at_call 204; exact Calls.quiet_of_same (HL.out _)))
        go_wp2
        go_ret
        exact ⟨rfl, grownBy_trans HG.out (grownBy_drewN _ _ _), HS2.out⟩
  · rw [if_pos (.inl (by simpa using g1))]
    have k1 : ((((s[i]'hi).toNat : Nat) : Int) != ((q.toNat : Nat) : Int)) = true := by
      simp; intro e; exact g1 (UInt8.toNat_inj.1 (by omega))
    clear hh en h L1 hqn hdl g1
    go_enter Tryz.func140, Tryz.ntmps140
    go_wp2_with fail
    go_quiet (fail)
    go_wp2
    go_ret
    exact ⟨rfl, grownBy_drewN _ _ _, HSC.out⟩

set_option maxHeartbeats 4000000 in
set_option maxRecDepth 100000 in
theorem singleQuoted_any (p K T oc os i : Nat) (f : Bool) (s : ByteArray) (w : World) (hi : i < s.size) (hs : s.size ≤ 4000000) (ho : oc ≤ 4000000) (h : ScB w p s i K f oc os T) :
    Calls Tryz.prog 95 #[.pointer (some ⟨p, 0, none⟩)] w fun e w' => e = .returned (.tuple #[.int .i64 4, .int .i64 (quoTl 39 oc i (s.data.toList.drop i)).1]) ∧
      w.grownBy w' (some p) ∧ ScB w' p s i K f (quoTl 39 oc i (s.data.toList.drop i)).2 os T := by
  have L1 := quoted_any4 39 p K T oc os i f s w hi hs ho h
  have HL := Lib.hid L1
  clear L1 h
  go_enter Tryz.func95, Tryz.ntmps95
  go_wp2_with fail
  refine HL.out.mono ?_
  rintro e w1 ⟨rfl, h1, h2⟩
  have H1 := Lib.hid h1
  have H2 := Lib.hid h2
  clear h1 h2
  go_wp2
  go_ret2
  exact ⟨rfl, H1.out, H2.out⟩

set_option maxHeartbeats 4000000 in
set_option maxRecDepth 100000 in
theorem quoted_any5 (q : UInt8) (p K T oc os i : Nat) (f : Bool) (s : ByteArray) (w : World) (hi : i < s.size) (hs : s.size ≤ 4000000) (_ho : os ≤ 4000000) (h : ScB w p s i K f oc os T) :
    Calls Tryz.prog 140 #[.pointer (some ⟨p, 0, none⟩), .int .u8 q.toNat, .pointer (some ⟨p, 5, none⟩)] w fun e w' => e = .returned (.int .i64 (quoTl q os i (s.data.toList.drop i)).1) ∧
      w.grownBy w' (some p) ∧ ScB w' p s i K f oc (quoTl q os i (s.data.toList.drop i)).2 T := by
  have c0 := h.c0
  have c1 := h.c1
  have c5 := h.c5
  have HSC := Lib.hid h
  have hh := head_at s i hi
  have en : ∀ args w, (callFunc 204 args).run Tryz.prog w = .ok (.enter 204 args) w := enters_of Tryz.func204 (by kernel_rfl) rfl
  have L1 := fun W => quotedSize_any (s.extract i s.size) W (by rw [ByteArray.size_extract]; omega) (by rw [ByteArray.size_extract]; omega)
  rw [ext_drop] at L1
  have hqn := quoN_le (s.data.toList.drop i) (by rw [drop_at s i hi]; simp)
  have hdl : (s.data.toList.drop i).length = s.size - i := by simp
  rw [hdl] at hqn
  have q1 : (0 : Int) ≤ i := by omega
  have q2 : (i : Int) < s.size := by omega
  have q3 : (i : Int) ≤ s.size := by omega
  unfold quoTl
  rw [hh]
  by_cases g1 : s[i]'hi = q
  · have k1 : ((((s[i]'hi).toNat : Nat) : Int) != ((q.toNat : Nat) : Int)) = false := by rw [g1]; simp
    by_cases g2 : i < os
    · rw [if_pos (.inr g2)]
      have k2 : decide ((i : Int) < (os : Int)) = true := by simp; omega
      have k3 : (i : Int) < (os : Int) := by omega
      clear hh en h L1 hqn hdl g1 g2
      go_enter Tryz.func140, Tryz.ntmps140
      go_wp2_with fail
      go_quiet (fail)
      go_wp2
      go_ret
      exact ⟨rfl, grownBy_drewN _ _ _, HSC.out⟩
    · rw [if_neg (fun g => g.elim (fun g => g (by rw [g1])) g2)]
      have k2 : decide ((i : Int) < (os : Int)) = false := by simp; omega
      have k3 : ¬ (i : Int) < (os : Int) := by omega
      generalize (quoN (s.data.toList.drop i)).1 = n at *
      generalize (quoN (s.data.toList.drop i)).2 = b at *
      have HL := Lib.hid L1
      clear hh h L1 g1 g2 hdl
      have hn2 : n ≤ 4000000 := by omega
      clear hqn
      cases b
      · rw [if_neg (by simp)]
        go_enter Tryz.func140, Tryz.ntmps140
        go_wp2_with fail
        go_quiet (fail)
        have hS2 : ScB (w.drewN nq) p s i K f oc os T := HSC.out
        have hG : w.grownBy (w.drewN nq) (some p) := grownBy_drewN _ _ _
        have HS2 := Lib.hid hS2
        have HG := Lib.hid hG
        clear c0 c1 c5 HSC hS2 hG
        generalize w.drewN nq = w2 at *
        have c0 := HS2.out.c0
        have c1 := HS2.out.c1
        go_wp2_with fail
        go_quiet (first | (go_at_call 204; exact Calls.quiet_of_same (HL.out _)))
        have hS3 : ScB (w2.drewN nq) p s i K f oc os T := HS2.out
        have hG3 : w.grownBy (w2.drewN nq) (some p) := grownBy_trans HG.out (grownBy_drewN _ _ _)
        have HS3 := Lib.hid hS3
        have HG3 := Lib.hid hG3
        clear c0 c1 HS2 HG hS3 hG3
        generalize w2.drewN nq = w3 at *
        have c1 := HS3.out.c1
        have c5 := HS3.out.c5
        have fz := Blk.frozen HS3.out 5
        go_wp2
        go_ret
        exact ⟨rfl, grownBy_trans HG3.out (grownBy_setCellJ w3 p 5 _), by have := Blk.set HS3.out 5 (.int .i64 ((i + n : Nat) : Int)); simpa [ScB] using this⟩
      · rw [if_pos rfl]
        go_enter Tryz.func140, Tryz.ntmps140
        go_wp2_with fail
        go_quiet (fail)
        have hS2 : ScB (w.drewN nq) p s i K f oc os T := HSC.out
        have hG : w.grownBy (w.drewN nq) (some p) := grownBy_drewN _ _ _
        have HS2 := Lib.hid hS2
        have HG := Lib.hid hG
        clear c0 c1 c5 HSC hS2 hG
        generalize w.drewN nq = w2 at *
        have c0 := HS2.out.c0
        have c1 := HS2.out.c1
        go_wp2_with fail
        go_quiet (first | (go_at_call 204; exact Calls.quiet_of_same (HL.out _)))
        go_wp2
        go_ret
        exact ⟨rfl, grownBy_trans HG.out (grownBy_drewN _ _ _), HS2.out⟩
  · rw [if_pos (.inl (by simpa using g1))]
    have k1 : ((((s[i]'hi).toNat : Nat) : Int) != ((q.toNat : Nat) : Int)) = true := by
      simp; intro e; exact g1 (UInt8.toNat_inj.1 (by omega))
    clear hh en h L1 hqn hdl g1
    go_enter Tryz.func140, Tryz.ntmps140
    go_wp2_with fail
    go_quiet (fail)
    go_wp2
    go_ret
    exact ⟨rfl, grownBy_drewN _ _ _, HSC.out⟩

set_option maxHeartbeats 4000000 in
set_option maxRecDepth 100000 in
theorem doubleQuoted_any (p K T oc os i : Nat) (f : Bool) (s : ByteArray) (w : World) (hi : i < s.size) (hs : s.size ≤ 4000000) (ho : os ≤ 4000000) (h : ScB w p s i K f oc os T) :
    Calls Tryz.prog 96 #[.pointer (some ⟨p, 0, none⟩)] w fun e w' => e = .returned (.tuple #[.int .i64 5, .int .i64 (quoTl 34 os i (s.data.toList.drop i)).1]) ∧
      w.grownBy w' (some p) ∧ ScB w' p s i K f oc (quoTl 34 os i (s.data.toList.drop i)).2 T := by
  have L1 := quoted_any5 34 p K T oc os i f s w hi hs ho h
  have HL := Lib.hid L1
  clear L1 h
  go_enter Tryz.func96, Tryz.ntmps96
  go_wp2_with fail
  refine HL.out.mono ?_
  rintro e w1 ⟨rfl, h1, h2⟩
  have H1 := Lib.hid h1
  have H2 := Lib.hid h2
  clear h1 h2
  go_wp2
  go_ret2
  exact ⟨rfl, H1.out, H2.out⟩

end Go.Proofs.YtjdpkhjoecfhlaaGreatDoor
