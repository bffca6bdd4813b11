/- What package poly's Vanish and its helpers answer. -/
import Derived.Test.YtaapbopcfpihbabDoorPolDiv
import Derived.Deep.RegionWith
namespace Go.Proofs.YtaapbopcfpihbabDoor
open Go.RowKit

end Go.Proofs.YtaapbopcfpihbabDoor
