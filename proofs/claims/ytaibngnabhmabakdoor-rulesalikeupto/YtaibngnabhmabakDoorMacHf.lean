/- attestref6.Do: 12, 0 -/
import Derived.Test.YtaibngnabhmabakDoorBaAC
namespace Go.Proofs.YtaibngnabhmabakDoor
open Go.RowKit

end Go.Proofs.YtaibngnabhmabakDoor
