/- Package machine: begun. Package machine: wrong. Package machine: what walked defers. -/
import Derived.Test.YtaibngnabhmabakDoorMahK
import Derived.Test.YtaibngnabhmabakDoorFld
import Derived.Defers
import Derived.Recover
namespace Go.Proofs.YtaibngnabhmabakDoor
open Go.RowKit Go.Maps

end Go.Proofs.YtaibngnabhmabakDoor

namespace Go.Proofs.YtaibngnabhmabakDoor
open Go.RowKit Go.Maps

end Go.Proofs.YtaibngnabhmabakDoor

namespace Go.Proofs.YtaibngnabhmabakDoor
open Go.RowKit Go.Maps

end Go.Proofs.YtaibngnabhmabakDoor
