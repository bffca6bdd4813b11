/- Premises that list the library's tables; worlds that meet them. -/
import Derived.Test.YtlhjifpomchnfaaGreatDoorEndsD
import Derived.Shelf.Spec.TrailingZeros
import Derived.Lib.TrailingZeros
import Derived.Lib.LaidTab
import Derived.Stop.LaidErr
namespace Go.Proofs.YtlhjifpomchnfaaGreatDoor
open Go.ChangeShapes Go.WideShapes Go.RowKit Go.Shelf

end Go.Proofs.YtlhjifpomchnfaaGreatDoor
