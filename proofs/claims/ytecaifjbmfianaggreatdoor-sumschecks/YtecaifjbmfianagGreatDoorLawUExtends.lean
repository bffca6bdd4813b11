/- SumsExtends: the walk. -/
import Derived.Test.YtecaifjbmfianagGreatDoorSumW
namespace Go.Proofs.YtecaifjbmfianagGreatDoor
open Go.RowKit

end Go.Proofs.YtecaifjbmfianagGreatDoor
