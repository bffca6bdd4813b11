/- Package pledge: drawPower, drawPlaces. Package tree: a walk's pairList. slices.Equal; package tree: rowList. -/
import Derived.Test.YtlhjifpomchnfaaGreatDoorPoAP
import Derived.Test.YtlhjifpomchnfaaGreatDoorPoAI
import Derived.Test.YtlhjifpomchnfaaGreatDoorPoAG
import Derived.Test.YtlhjifpomchnfaaGreatDoorPoAS
import Derived.Test.YtlhjifpomchnfaaGreatDoorPoAT
import Derived.Test.YtlhjifpomchnfaaGreatDoorPoAH
namespace Go.Proofs.YtlhjifpomchnfaaGreatDoor
open Go.RowKit Go.Sort

end Go.Proofs.YtlhjifpomchnfaaGreatDoor

namespace Go.Proofs.YtlhjifpomchnfaaGreatDoor
open Go.RowKit

end Go.Proofs.YtlhjifpomchnfaaGreatDoor

namespace Go.Proofs.YtlhjifpomchnfaaGreatDoor
open Go.RowKit

end Go.Proofs.YtlhjifpomchnfaaGreatDoor
