/- Package machine: move. -/
import Derived.Test.YtmmgkdcojkmlcaaGreatDoorLFBA
namespace Go.Proofs.YtmmgkdcojkmlcaaGreatDoor
open Go.RowKit Go.Maps

end Go.Proofs.YtmmgkdcojkmlcaaGreatDoor
