
import Derived.Test.YtlhjifpomchnfaaGreatDoorPoAC
import Derived.Test.YtlhjifpomchnfaaGreatDoorFld
import Derived.Sort.CutIn
import Derived.Test.YtlhjifpomchnfaaGreatDoorPoAA
set_option maxRecDepth 1000000
set_option maxHeartbeats 8000000
namespace Go.Proofs.YtlhjifpomchnfaaGreatDoor
open Go.RowKit Go.Shelf
attribute [local go_sem] Oper.semAt_some
open Go.RowKit
end Go.Proofs.YtlhjifpomchnfaaGreatDoor
