
import Derived.Test.YtjlngcmkgkiplaaGreatDoorWcAE
set_option maxRecDepth 1000000
set_option maxHeartbeats 8000000
namespace Go.Proofs.YtjlngcmkgkiplaaGreatDoor
open Go.RowKit Go.Maps
end Go.Proofs.YtjlngcmkgkiplaaGreatDoor
