/- Package machine: work, quotients. Package machine: work, calls. Package machine: cells, work and move for any instruction. -/
import Derived.Test.YtaibngnabhmabakDoorMahD
import Derived.Test.YtaibngnabhmabakDoorSpgs
import Derived.Test.YtaibngnabhmabakDoorMahG
import Derived.Test.YtaibngnabhmabakDoorMahEa
import Derived.Test.YtaibngnabhmabakDoorMahEb
import Derived.Test.YtaibngnabhmabakDoorMahEc
import Derived.Test.YtaibngnabhmabakDoorMahEd
namespace Go.Proofs.YtaibngnabhmabakDoor
open Go.RowKit Go.Maps

end Go.Proofs.YtaibngnabhmabakDoor

namespace Go.Proofs.YtaibngnabhmabakDoor
open Go.RowKit Go.Maps

end Go.Proofs.YtaibngnabhmabakDoor

namespace Go.Proofs.YtaibngnabhmabakDoor
open Go.RowKit Go.Maps

end Go.Proofs.YtaibngnabhmabakDoor
