/- Package machine: work, set, take, pass. -/
import Derived.Test.YthemehdcakimgakDoorMahD
import Derived.Test.YthemehdcakimgakDoorSpgs
namespace Go.Proofs.YthemehdcakimgakDoor
open Go.RowKit Go.Maps

end Go.Proofs.YthemehdcakimgakDoor
