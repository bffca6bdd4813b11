/- Package sums: every, areTables, isShown. SumsExtends: the walk. -/
import Derived.Test.YtaapbopcfpihbabGreatDoorGkAK
import Derived.Test.YtaapbopcfpihbabGreatDoorSpgs
import Derived.Test.YtaapbopcfpihbabGreatDoorGkAJ
namespace Go.Proofs.YtaapbopcfpihbabGreatDoor
open Go.RowKit

end Go.Proofs.YtaapbopcfpihbabGreatDoor

namespace Go.Proofs.YtaapbopcfpihbabGreatDoor
open Go.RowKit

end Go.Proofs.YtaapbopcfpihbabGreatDoor
