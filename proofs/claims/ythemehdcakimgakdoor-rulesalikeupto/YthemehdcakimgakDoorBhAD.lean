/- attestref6.Do: op 2 attestref6.Do: op 3 -/
import Derived.Test.YthemehdcakimgakDoorBhAC
namespace Go.Proofs.YthemehdcakimgakDoor
open Go.RowKit

end Go.Proofs.YthemehdcakimgakDoor

namespace Go.Proofs.YthemehdcakimgakDoor
open Go.RowKit

end Go.Proofs.YthemehdcakimgakDoor
