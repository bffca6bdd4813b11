
import Derived.Test.YtlhjifpomchnfaaGreatDoorPls
import Derived.Deep.RegionWith
set_option maxRecDepth 1000000
set_option maxHeartbeats 8000000
namespace Go.Proofs.YtlhjifpomchnfaaGreatDoor
open Go.RowKit
open Go.RowKit Pol
end Go.Proofs.YtlhjifpomchnfaaGreatDoor
