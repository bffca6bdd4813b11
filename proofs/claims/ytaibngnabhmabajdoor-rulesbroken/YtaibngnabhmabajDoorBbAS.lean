/- Package machine: work, sums, differences, products. Package machine: work, same, must. -/
import Derived.Test.YtaibngnabhmabajDoorBbAR
import Derived.Test.YtaibngnabhmabajDoorSpgs
namespace Go.Proofs.YtaibngnabhmabajDoor
open Go.RowKit Go.Maps

end Go.Proofs.YtaibngnabhmabajDoor

namespace Go.Proofs.YtaibngnabhmabajDoor
open Go.RowKit Go.Maps

end Go.Proofs.YtaibngnabhmabajDoor
