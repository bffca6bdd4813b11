/- Package gates: Values. Package gates: Part. -/
import Derived.Test.YtaapbopcfpihbabGreatDoorGkAO
import Derived.Test.YtaapbopcfpihbabGreatDoorGtR
namespace Go.Proofs.YtaapbopcfpihbabGreatDoor
open Go.RowKit

end Go.Proofs.YtaapbopcfpihbabGreatDoor

namespace Go.Proofs.YtaapbopcfpihbabGreatDoor
open Go.RowKit

end Go.Proofs.YtaapbopcfpihbabGreatDoor
