/- The law PledgeMixes: its walk. -/
import Derived.Test.YtlhjifpomchnfaaGreatDoorPoAX
import Derived.Test.YtlhjifpomchnfaaGreatDoorPoBB
import Derived.Test.YtlhjifpomchnfaaGreatDoorPoAP
import Derived.Test.YtlhjifpomchnfaaGreatDoorPoAY
import Derived.Test.YtlhjifpomchnfaaGreatDoorPoAJ
import Derived.Test.YtlhjifpomchnfaaGreatDoorPoAL
import Derived.Test.YtlhjifpomchnfaaGreatDoorFld
namespace Go.Proofs.YtlhjifpomchnfaaGreatDoor
open Go.RowKit

end Go.Proofs.YtlhjifpomchnfaaGreatDoor
