/- attestref6.Do: 12, 0 attestref6.Do: 13 attestref6.Do: any other attestref6.Do: any instruction. -/
import Derived.Test.YtaibngnabhmabajDoorBbAA
import Derived.Test.YtaibngnabhmabajDoorBbAB
import Derived.Test.YtaibngnabhmabajDoorBbAC
namespace Go.Proofs.YtaibngnabhmabajDoor
open Go.RowKit

end Go.Proofs.YtaibngnabhmabajDoor

namespace Go.Proofs.YtaibngnabhmabajDoor
open Go.RowKit

end Go.Proofs.YtaibngnabhmabajDoor

namespace Go.Proofs.YtaibngnabhmabajDoor
open Go.RowKit

end Go.Proofs.YtaibngnabhmabajDoor

namespace Go.Proofs.YtaibngnabhmabajDoor
open Go.RowKit

end Go.Proofs.YtaibngnabhmabajDoor
