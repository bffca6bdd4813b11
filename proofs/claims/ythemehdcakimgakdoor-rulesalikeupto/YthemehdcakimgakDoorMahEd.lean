/- Package machine: work, zero, halt, back, jump, others. -/
import Derived.Test.YthemehdcakimgakDoorMahD
import Derived.Test.YthemehdcakimgakDoorSpgs
namespace Go.Proofs.YthemehdcakimgakDoor
open Go.RowKit Go.Maps

end Go.Proofs.YthemehdcakimgakDoor
