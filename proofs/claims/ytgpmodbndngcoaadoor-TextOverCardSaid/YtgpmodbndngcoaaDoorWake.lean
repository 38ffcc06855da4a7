/- awake at its own inputs. -/
import Derived.Test.YtgpmodbndngcoaaDoorAwake
import Derived.Test.YtgpmodbndngcoaaDoorDiff
namespace Go.Proofs.YtgpmodbndngcoaaDoor
open Go.RowKit Go.Maps

theorem wake_linesA : linesB ⟨#[97, 10, 98, 10]⟩ = [⟨#[97, 10]⟩, ⟨#[98, 10]⟩] := by decide +kernel
theorem wake_linesB : linesB ⟨#[97, 10, 99, 10]⟩ = [⟨#[97, 10]⟩, ⟨#[99, 10]⟩] := by decide +kernel
theorem wake_cmp : cmpL [⟨#[97, 10]⟩, ⟨#[98, 10]⟩] [⟨#[97, 10]⟩, ⟨#[99, 10]⟩] = [⟨32, ⟨#[97, 10]⟩⟩, ⟨45, ⟨#[98, 10]⟩⟩, ⟨43, ⟨#[99, 10]⟩⟩] := by
  have h : ¬ (ByteArray.mk #[98, 10]) = ⟨#[99, 10]⟩ := by decide
  rw [cmpL, if_pos rfl, cmpL, if_neg h, if_pos (by simp [lcsL]), cmpL, cmpL]
theorem wake_hunks : hunksF (gatherF [⟨32, ⟨#[97, 10]⟩⟩, ⟨45, ⟨#[98, 10]⟩⟩, ⟨43, ⟨#[99, 10]⟩⟩] 1) = [64, 64, 32, 49, 44, 50, 32, 49, 44, 50, 32, 64, 64, 10, 32, 97, 10, 45, 98, 10, 43, 99, 10] := by decide +kernel
theorem wake_diff : diffL ⟨#[97, 10, 98, 10]⟩ ⟨#[97, 10, 99, 10]⟩ 1 = [64, 64, 32, 49, 44, 50, 32, 49, 44, 50, 32, 64, 64, 10, 32, 97, 10, 45, 98, 10, 43, 99, 10] := by
  unfold diffL
  rw [wake_linesA, wake_linesB, wake_cmp, wake_hunks]
theorem wake_err : diffE ⟨#[97, 10, 98, 10]⟩ ⟨#[97, 10, 99, 10]⟩ 1 = 0 := by decide +kernel

theorem awake_is (w : World) (ht : Tab w) : Calls Tryd.prog 17 #[] w fun e w' => e = .returned (.bool true) ∧ Below w.heap.size w w' := by
  refine awake_any (fun W hT => ?_) w ht
  have h := diff_any ⟨#[97, 10, 98, 10]⟩ ⟨#[97, 10, 99, 10]⟩ 1 W (by decide) (by decide) hT (by rw [show (1 : Int).toNat = 1 from rfl, wake_diff]; decide)
  rw [wake_err, show (1 : Int).toNat = 1 from rfl, wake_diff] at h
  exact h

end Go.Proofs.YtgpmodbndngcoaaDoor
