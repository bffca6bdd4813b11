/- Package sums: every, areTables, isShown. -/
import Derived.Test.YtaapbopcfpihbabDoorGcAI
import Derived.Test.YtaapbopcfpihbabDoorSpgs
namespace Go.Proofs.YtaapbopcfpihbabDoor
open Go.RowKit

end Go.Proofs.YtaapbopcfpihbabDoor
