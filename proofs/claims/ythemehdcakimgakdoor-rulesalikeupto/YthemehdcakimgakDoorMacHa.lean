/- attestref6.Do: 5, 7 -/
import Derived.Test.YthemehdcakimgakDoorBhAC
namespace Go.Proofs.YthemehdcakimgakDoor
open Go.RowKit

end Go.Proofs.YthemehdcakimgakDoor
