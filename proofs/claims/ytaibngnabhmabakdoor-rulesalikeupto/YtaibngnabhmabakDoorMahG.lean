/- Package machine: move. -/
import Derived.Test.YtaibngnabhmabakDoorMahD
namespace Go.Proofs.YtaibngnabhmabakDoor
open Go.RowKit Go.Maps

end Go.Proofs.YtaibngnabhmabakDoor
