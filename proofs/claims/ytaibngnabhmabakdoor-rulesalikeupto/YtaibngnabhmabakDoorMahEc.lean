/- Package machine: work, set, take, pass. -/
import Derived.Test.YtaibngnabhmabakDoorMahD
import Derived.Test.YtaibngnabhmabakDoorSpgs
namespace Go.Proofs.YtaibngnabhmabakDoor
open Go.RowKit Go.Maps

end Go.Proofs.YtaibngnabhmabakDoor
