/- attestref6.Do: 9 -/
import Derived.Test.YthemehdcakimgakDoorBhAC
namespace Go.Proofs.YthemehdcakimgakDoor
open Go.RowKit

end Go.Proofs.YthemehdcakimgakDoor
