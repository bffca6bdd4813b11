/- Package pledge: shows. Package pledge: agrees. -/
import Derived.Test.YtlhjifpomchnfaaGreatDoorPoAU
import Derived.Test.YtlhjifpomchnfaaGreatDoorPoAI
namespace Go.Proofs.YtlhjifpomchnfaaGreatDoor
open Go.RowKit

end Go.Proofs.YtlhjifpomchnfaaGreatDoor

namespace Go.Proofs.YtlhjifpomchnfaaGreatDoor
open Go.RowKit

end Go.Proofs.YtlhjifpomchnfaaGreatDoor
