/- attestref6.Do: 8 -/
import Derived.Test.YtaibngnabhmabakDoorBaAC
namespace Go.Proofs.YtaibngnabhmabakDoor
open Go.RowKit

end Go.Proofs.YtaibngnabhmabakDoor
