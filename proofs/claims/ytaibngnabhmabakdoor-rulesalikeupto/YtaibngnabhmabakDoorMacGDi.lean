/- attestref6.Do: op 4 -/
import Derived.Test.YtaibngnabhmabakDoorBaAC
namespace Go.Proofs.YtaibngnabhmabakDoor
open Go.RowKit

end Go.Proofs.YtaibngnabhmabakDoor
