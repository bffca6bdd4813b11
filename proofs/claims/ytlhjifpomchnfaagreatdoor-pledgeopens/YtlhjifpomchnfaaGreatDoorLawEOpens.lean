/- The law PledgeOpens: its walk. -/
import Derived.Test.YtlhjifpomchnfaaGreatDoorPnI
import Derived.Test.YtlhjifpomchnfaaGreatDoorLawEMixes
import Derived.Test.YtlhjifpomchnfaaGreatDoorSmgD
namespace Go.Proofs.YtlhjifpomchnfaaGreatDoor
open Go.RowKit

end Go.Proofs.YtlhjifpomchnfaaGreatDoor
