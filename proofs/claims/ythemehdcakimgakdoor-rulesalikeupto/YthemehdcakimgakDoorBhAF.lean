/- attestref6.Do: 13 attestref6.Do: any other -/
import Derived.Test.YthemehdcakimgakDoorBhAC
namespace Go.Proofs.YthemehdcakimgakDoor
open Go.RowKit

end Go.Proofs.YthemehdcakimgakDoor

namespace Go.Proofs.YthemehdcakimgakDoor
open Go.RowKit

end Go.Proofs.YthemehdcakimgakDoor
