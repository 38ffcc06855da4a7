import Derived.Test.YtgpmodbndngcoaaDoorRows
import Derived.WalkKit
import Derived.WalkSpells
import Derived.WalkLawsBesides
namespace Go.Proofs.YtgpmodbndngcoaaDoor
open Go.RowKit

set_option maxHeartbeats 400000 in
theorem growth_any (f t : Int) (s : ByteArray) (w : World) (hs : s.size ≤ 140737488355328) (h0 : 0 ≤ f) (h1 : f ≤ t) (h2 : t ≤ 140737488355328) :
    Calls Tryd.prog 61 #[.agg #[.int .i64 f, .int .i64 t, .string s]] w fun e w' => e = .returned (.int .i64 ((s.size : Int) - (t - f))) ∧ Below w.heap.size w w' := by
  go_enter Tryd.func61, Tryd.ntmps61
  go_wp2
  go_ret
  exact ⟨rfl, (Below.refl _ _).alloc (Nat.le_refl _) _⟩

end Go.Proofs.YtgpmodbndngcoaaDoor
