/- TreeBinds: the walk. -/
import Derived.Test.YtmmlphdekeflfaaGreatDoorPcAZ
import Derived.Test.YtmmlphdekeflfaaGreatDoorPcAG
namespace Go.Proofs.YtmmlphdekeflfaaGreatDoor
open Go.RowKit

end Go.Proofs.YtmmlphdekeflfaaGreatDoor
