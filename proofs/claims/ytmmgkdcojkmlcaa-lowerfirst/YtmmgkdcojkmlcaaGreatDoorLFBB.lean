/- Package machine: work, sums, differences, products. Package machine: work, same, must. -/
import Derived.Test.YtmmgkdcojkmlcaaGreatDoorLFBA
import Derived.Test.YtmmgkdcojkmlcaaGreatDoorSpgs
namespace Go.Proofs.YtmmgkdcojkmlcaaGreatDoor
open Go.RowKit Go.Maps

end Go.Proofs.YtmmgkdcojkmlcaaGreatDoor

namespace Go.Proofs.YtmmgkdcojkmlcaaGreatDoor
open Go.RowKit Go.Maps

end Go.Proofs.YtmmgkdcojkmlcaaGreatDoor
