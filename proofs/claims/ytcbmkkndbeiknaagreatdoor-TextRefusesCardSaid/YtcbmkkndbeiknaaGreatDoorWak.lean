/- awake: every law's last words. awake at its own inputs. -/
import Derived.Test.YtcbmkkndbeiknaaGreatDoorApp
import Derived.Test.YtcbmkkndbeiknaaGreatDoorSide
import Derived.Test.YtcbmkkndbeiknaaGreatDoorDiff

namespace Go.Proofs.YtcbmkkndbeiknaaGreatDoor
open Go.RowKit Go.Maps

def wakeEd : Ed := ⟨1, 2, ⟨#[120]⟩⟩
def wakeText : ByteArray := ⟨#[64, 64, 32, 49, 44, 50, 32, 49, 44, 50, 32, 64, 64, 10, 32, 97, 10, 45, 98, 10, 43, 99, 10]⟩

theorem wake_fine : applF 3 [wakeEd] = 0 := by decide +kernel
theorem wake_made : madeF [97, 98, 99] 0 (ordF [wakeEd]) = [97, 120, 99] := by decide +kernel

set_option maxHeartbeats 2000000 in
set_option maxRecDepth 100000 in
theorem awake_any (hd : ∀ W, Tab W → Calls Tryz.prog 15 #[.string ⟨#[97, 10, 98, 10]⟩, .string ⟨#[97, 10, 99, 10]⟩, .int .i64 1] W fun e w' => e = .returned (.tuple #[.string wakeText, .int .i64 0]) ∧ Below W.heap.size W w')
    (w : World) (ht : Tab w) : Calls Tryz.prog 13 #[] w fun e w' => e = .returned (.bool true) ∧ Below w.heap.size w w' := by
  have HD := Lib.hid hd
  have HT := Lib.hid ht
  clear hd ht
  go_enter Tryz.func13, Tryz.ntmps13
  go_wp2_with fail
  have hE : IsE (w.alloc (Obj.cells #[Value.int IntKind.i64 1, Value.int IntKind.i64 2, Value.string { data := #[120] }] 40)) (.slice (some ⟨w.heap.size, 0, none⟩) 1 1) [wakeEd] := by
    refine ⟨some ⟨w.heap.size, 0, none⟩, 1, rfl, (fun e => by cases e), Nat.le_refl _, by unfold maxLen; omega, fun _ => ⟨w.heap.size, 0, rfl, by simp, fun j u hu => ?_⟩⟩
    have := news_new w 40 #[Value.int IntKind.i64 1, Value.int IntKind.i64 2, Value.string { data := #[120] }] j u hu
    rwa [Addr.add_lit] at this
  have ha := apply_any ⟨#[97, 98, 99]⟩ _ [wakeEd] _ (by decide) (by decide) (fun x hx => by rw [List.mem_singleton] at hx; subst hx; decide) hE
  rw [show applF (ByteArray.mk #[97, 98, 99]).size [wakeEd] = 0 from wake_fine, if_pos rfl, show madeF (ByteArray.mk #[97, 98, 99]).data.toList 0 (ordF [wakeEd]) = [97, 120, 99] from wake_made] at ha
  refine ha.mono ?_
  rintro e w1 ⟨rfl, hb1⟩
  have hb : Below w.heap.size w w1 := ((Below.refl _ w).alloc (Nat.le_refl _) _).trans (hb1.mono (by simp))
  have hd := HD.out w1 (HT.out.below hb)
  have HB := Lib.hid hb
  have HD1 := Lib.hid hd
  clear ha hE hb1 hb hd
  go_wp2_with fail
  refine HD1.out.mono ?_
  rintro e w2 ⟨rfl, hb2⟩
  have HB2 := Lib.hid (HB.out.trans (hb2.mono HB.out.size))
  clear hb2
  go_wp2
  go_ret
  exact ⟨ret_bool (by rw [ByteArray.toList_eq]; rfl), HB2.out⟩

end Go.Proofs.YtcbmkkndbeiknaaGreatDoor

namespace Go.Proofs.YtcbmkkndbeiknaaGreatDoor
open Go.RowKit Go.Maps

theorem wake_linesA : linesB ⟨#[97, 10, 98, 10]⟩ = [⟨#[97, 10]⟩, ⟨#[98, 10]⟩] := by decide +kernel
theorem wake_linesB : linesB ⟨#[97, 10, 99, 10]⟩ = [⟨#[97, 10]⟩, ⟨#[99, 10]⟩] := by decide +kernel
theorem wake_cmp : cmpL [⟨#[97, 10]⟩, ⟨#[98, 10]⟩] [⟨#[97, 10]⟩, ⟨#[99, 10]⟩] = [⟨32, ⟨#[97, 10]⟩⟩, ⟨45, ⟨#[98, 10]⟩⟩, ⟨43, ⟨#[99, 10]⟩⟩] := by
  have h : ¬ (ByteArray.mk #[98, 10]) = ⟨#[99, 10]⟩ := by decide
  rw [cmpL, if_pos rfl, cmpL, if_neg h, if_pos (by simp [lcsL]), cmpL, cmpL]
theorem wake_hunks : hunksF (gatherF [⟨32, ⟨#[97, 10]⟩⟩, ⟨45, ⟨#[98, 10]⟩⟩, ⟨43, ⟨#[99, 10]⟩⟩] 1) = [64, 64, 32, 49, 44, 50, 32, 49, 44, 50, 32, 64, 64, 10, 32, 97, 10, 45, 98, 10, 43, 99, 10] := by decide +kernel
theorem wake_diff : diffL ⟨#[97, 10, 98, 10]⟩ ⟨#[97, 10, 99, 10]⟩ 1 = [64, 64, 32, 49, 44, 50, 32, 49, 44, 50, 32, 64, 64, 10, 32, 97, 10, 45, 98, 10, 43, 99, 10] := by
  unfold diffL
  rw [wake_linesA, wake_linesB, wake_cmp, wake_hunks]
theorem wake_err : diffE ⟨#[97, 10, 98, 10]⟩ ⟨#[97, 10, 99, 10]⟩ 1 = 0 := by decide +kernel

theorem awake_is (w : World) (ht : Tab w) : Calls Tryz.prog 13 #[] w fun e w' => e = .returned (.bool true) ∧ Below w.heap.size w w' := by
  refine awake_any (fun W hT => ?_) w ht
  have h := diff_any ⟨#[97, 10, 98, 10]⟩ ⟨#[97, 10, 99, 10]⟩ 1 W (by decide) (by decide) hT (by rw [show (1 : Int).toNat = 1 from rfl, wake_diff]; decide)
  rw [wake_err, show (1 : Int).toNat = 1 from rfl, wake_diff] at h
  exact h

end Go.Proofs.YtcbmkkndbeiknaaGreatDoor
