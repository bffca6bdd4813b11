/- Package machine: work, quotients. Package machine: work, calls. Package machine: cells, work and move for any instruction. -/
import Derived.Test.YthemehdcakimgakDoorMahD
import Derived.Test.YthemehdcakimgakDoorSpgs
import Derived.Test.YthemehdcakimgakDoorMahG
import Derived.Test.YthemehdcakimgakDoorMahEa
import Derived.Test.YthemehdcakimgakDoorMahEb
import Derived.Test.YthemehdcakimgakDoorMahEc
import Derived.Test.YthemehdcakimgakDoorMahEd
namespace Go.Proofs.YthemehdcakimgakDoor
open Go.RowKit Go.Maps

end Go.Proofs.YthemehdcakimgakDoor

namespace Go.Proofs.YthemehdcakimgakDoor
open Go.RowKit Go.Maps

end Go.Proofs.YthemehdcakimgakDoor

namespace Go.Proofs.YthemehdcakimgakDoor
open Go.RowKit Go.Maps

end Go.Proofs.YthemehdcakimgakDoor
