/- attestref6.Do: 8 -/
import Derived.Test.YthemehdcakimgakDoorBhAC
namespace Go.Proofs.YthemehdcakimgakDoor
open Go.RowKit

end Go.Proofs.YthemehdcakimgakDoor
