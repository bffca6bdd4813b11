/- attestref4: Variables, Over, weight, Extend, Fix, Total, At. attestref4: weight, Extend, Fix, Total, At. -/
import Derived.Test.YtmmlphdekeflfaaGreatDoorPbAE
import Derived.Test.YtmmlphdekeflfaaGreatDoorPbAO
import Derived.Test.YtmmlphdekeflfaaGreatDoorRefs
import Derived.Test.YtmmlphdekeflfaaGreatDoorPbAC
import Derived.BigQuiet
namespace Go.Proofs.YtmmlphdekeflfaaGreatDoor
open Go.RowKit

end Go.Proofs.YtmmlphdekeflfaaGreatDoor

namespace Go.Proofs.YtmmlphdekeflfaaGreatDoor
open Go.RowKit

end Go.Proofs.YtmmlphdekeflfaaGreatDoor
