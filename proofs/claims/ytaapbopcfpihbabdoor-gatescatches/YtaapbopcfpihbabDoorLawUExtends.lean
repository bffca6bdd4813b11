/- SumsExtends: the walk. -/
import Derived.Test.YtaapbopcfpihbabDoorGcAG
namespace Go.Proofs.YtaapbopcfpihbabDoor
open Go.RowKit

end Go.Proofs.YtaapbopcfpihbabDoor
