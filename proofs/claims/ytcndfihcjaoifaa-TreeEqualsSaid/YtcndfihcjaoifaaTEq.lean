/- TreeEquals: the law, for all trees. -/
import Derived.Test.YtcndfihcjaoifaaTEq1
import Derived.Test.YtcndfihcjaoifaaTEq2
import Derived.Test.YtcndfihcjaoifaaTEq3

namespace Go.Proofs.Ytcndfihcjaoifaa
open Go.RowKit Go.Maps

theorem treeEquals_any (a b c : Nd) (w : World) (ha : a.In w w.heap.size) (hb : b.In w w.heap.size) (hc : c.In w w.heap.size) :
    Calls Try.prog 7 #[a.val, b.val, c.val] w fun e w' => e = .returned (.bool true) ∧ Below w.heap.size w w' := by
  cases hx : alk 300 a b with
  | false => exact treeEquals_3 a b c w hx ha hb hc
  | true =>
    cases hy : alk 300 b c with
    | false => exact treeEquals_2 a b c w hx hy ha hb hc
    | true => exact treeEquals_1 a b c w hx hy ha hb hc

end Go.Proofs.Ytcndfihcjaoifaa
