
import Derived.Test.YtkdndfbfmchcpaaGreatDoorTgAE
set_option maxRecDepth 1000000
set_option maxHeartbeats 8000000
namespace Go.Proofs.YtkdndfbfmchcpaaGreatDoor
open Go.RowKit
open Go.RowKit Pol
end Go.Proofs.YtkdndfbfmchcpaaGreatDoor
