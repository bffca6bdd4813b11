/- Package machine: work, sums, differences, products. -/
import Derived.Test.YthemehdcakimgakDoorMahD
import Derived.Test.YthemehdcakimgakDoorSpgs
namespace Go.Proofs.YthemehdcakimgakDoor
open Go.RowKit Go.Maps

end Go.Proofs.YthemehdcakimgakDoor
