/- slices.Values over a list of numbers, by its own text: what comes round by round. -/
import Derived.RangeFuncNested
import Derived.RangeFuncBound
import Derived.RangeFuncCalls
import Derived.RangeFuncLeaves
import Derived.RangeFuncBox
import Derived.RangeFuncWrites
import Derived.Shelf.Abstract
import Derived.WalkKit
import Derived.OwnWalkIn
import Derived.TacticsInMore
import Derived.LoopNIn
import Derived.LoopIn
import Derived.RegionIn
import Derived.BigRegionIn
import Derived.Test.YtaibngnabhmabajDoorBbAP
namespace Go.Proofs.YtaibngnabhmabajDoor
open Go.RowKit Go.Shelf

attribute [local go_sem] Oper.semAt_some

theorem take_snoc {zs : List Int} {k : Nat} (h : k < zs.length) : zs.take k ++ [zat zs k] = zs.take (k + 1) := by
  unfold zat
  rw [List.take_add_one, List.getElem?_eq_getElem h]
  simp

end Go.Proofs.YtaibngnabhmabajDoor
