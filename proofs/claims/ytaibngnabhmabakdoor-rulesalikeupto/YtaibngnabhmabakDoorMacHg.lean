/- attestref6.Do: 13 -/
import Derived.Test.YtaibngnabhmabakDoorBaAC
namespace Go.Proofs.YtaibngnabhmabakDoor
open Go.RowKit

end Go.Proofs.YtaibngnabhmabakDoor
