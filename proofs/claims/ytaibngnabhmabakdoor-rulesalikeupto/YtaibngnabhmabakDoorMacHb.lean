
import Derived.Test.YtaibngnabhmabakDoorBaAC
/- attestref6.Do: 8 -/
namespace Go.Proofs.YtaibngnabhmabakDoor
open Go.RowKit

end Go.Proofs.YtaibngnabhmabakDoor

/- attestref6.Do: 9 -/
namespace Go.Proofs.YtaibngnabhmabakDoor
open Go.RowKit

end Go.Proofs.YtaibngnabhmabakDoor
