
import Derived.Test.YtkdndfbfmchcpaaGreatDoorEnds
set_option maxRecDepth 1000000
set_option maxHeartbeats 8000000
namespace Go.Proofs.YtkdndfbfmchcpaaGreatDoor
open Go.ChangeShapes Go.WideShapes Go.RowKit
end Go.Proofs.YtkdndfbfmchcpaaGreatDoor
