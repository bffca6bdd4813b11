
import Derived.Test.YtjlngcmkgkiplaaGreatDoorWcAE
import Derived.Test.YtjlngcmkgkiplaaGreatDoorSpgs
import Derived.Test.YtjlngcmkgkiplaaGreatDoorMahG
import Derived.Test.YtjlngcmkgkiplaaGreatDoorWcAF
import Derived.Test.YtjlngcmkgkiplaaGreatDoorWcAD
import Derived.Deep.RegionHeld3
set_option maxRecDepth 1000000
set_option maxHeartbeats 8000000
namespace Go.Proofs.YtjlngcmkgkiplaaGreatDoor
open Go.RowKit Go.Maps
open Go.RowKit
section
variable {P : Program} {ops : Array Oper} {Q : Exit -> Act -> World -> Prop} {md : Region.Mode} {S : World -> Prop}
end
end Go.Proofs.YtjlngcmkgkiplaaGreatDoor
