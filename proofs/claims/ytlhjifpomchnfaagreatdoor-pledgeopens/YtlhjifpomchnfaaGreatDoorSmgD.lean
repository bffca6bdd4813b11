/- Package sums: Extend, Fix, Total, Round. -/
import Derived.Test.YtlhjifpomchnfaaGreatDoorPoAM
import Derived.Test.YtlhjifpomchnfaaGreatDoorPoBE
import Derived.Test.YtlhjifpomchnfaaGreatDoorPoBF
namespace Go.Proofs.YtlhjifpomchnfaaGreatDoor
open Go.RowKit

end Go.Proofs.YtlhjifpomchnfaaGreatDoor
