/- attestref6.Do: op 6 attestref6.Do: 5, 7 attestref6.Do: 8 -/
import Derived.Test.YtaibngnabhmabajDoorBbAA
namespace Go.Proofs.YtaibngnabhmabajDoor
open Go.RowKit

end Go.Proofs.YtaibngnabhmabajDoor

namespace Go.Proofs.YtaibngnabhmabajDoor
open Go.RowKit

end Go.Proofs.YtaibngnabhmabajDoor

namespace Go.Proofs.YtaibngnabhmabajDoor
open Go.RowKit

end Go.Proofs.YtaibngnabhmabajDoor
