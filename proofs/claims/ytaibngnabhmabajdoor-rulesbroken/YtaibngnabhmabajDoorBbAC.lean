
import Derived.Test.YtaibngnabhmabajDoorBbAA
/- attestref6.Do: op 6 attestref6.Do: 5, 7 attestref6.Do: 8 -/
namespace Go.Proofs.YtaibngnabhmabajDoor
open Go.RowKit

end Go.Proofs.YtaibngnabhmabajDoor

namespace Go.Proofs.YtaibngnabhmabajDoor
open Go.RowKit

end Go.Proofs.YtaibngnabhmabajDoor

namespace Go.Proofs.YtaibngnabhmabajDoor
open Go.RowKit

end Go.Proofs.YtaibngnabhmabajDoor

/- attestref6.Do: 9 attestref6.Do: 10 attestref6.Do: 11 -/
namespace Go.Proofs.YtaibngnabhmabajDoor
open Go.RowKit

end Go.Proofs.YtaibngnabhmabajDoor

namespace Go.Proofs.YtaibngnabhmabajDoor
open Go.RowKit

end Go.Proofs.YtaibngnabhmabajDoor

namespace Go.Proofs.YtaibngnabhmabajDoor
open Go.RowKit

end Go.Proofs.YtaibngnabhmabajDoor
