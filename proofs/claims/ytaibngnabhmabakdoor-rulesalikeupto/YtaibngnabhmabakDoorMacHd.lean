
import Derived.Test.YtaibngnabhmabakDoorBaAC
/- attestref6.Do: 10 -/
namespace Go.Proofs.YtaibngnabhmabakDoor
open Go.RowKit

end Go.Proofs.YtaibngnabhmabakDoor

/- attestref6.Do: 11 -/
namespace Go.Proofs.YtaibngnabhmabakDoor
open Go.RowKit

end Go.Proofs.YtaibngnabhmabakDoor
