
import Derived.Test.YtjlngcmkgkiplaaGreatDoorWcAG
import Derived.Test.YtjlngcmkgkiplaaGreatDoorMahG
import Derived.Test.YtjlngcmkgkiplaaGreatDoorFld
set_option maxRecDepth 1000000
set_option maxHeartbeats 8000000
namespace Go.Proofs.YtjlngcmkgkiplaaGreatDoor
open Go.RowKit Go.Maps
section
variable {p : Nat} {a b c : Int} {n : Rg} {cs : List (Int × Int)}
end
end Go.Proofs.YtjlngcmkgkiplaaGreatDoor
