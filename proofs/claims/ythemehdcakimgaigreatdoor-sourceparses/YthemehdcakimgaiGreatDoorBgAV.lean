/- Package source: the value of a number. Package source: the value of a difference from nothing. Package source: the value of a choice. Package source: the value of what has to be so. -/
import Derived.Test.YthemehdcakimgaiGreatDoorBgAU
namespace Go.Proofs.YthemehdcakimgaiGreatDoor
open Go.RowKit

end Go.Proofs.YthemehdcakimgaiGreatDoor

namespace Go.Proofs.YthemehdcakimgaiGreatDoor
open Go.RowKit

end Go.Proofs.YthemehdcakimgaiGreatDoor

namespace Go.Proofs.YthemehdcakimgaiGreatDoor
open Go.RowKit

end Go.Proofs.YthemehdcakimgaiGreatDoor

namespace Go.Proofs.YthemehdcakimgaiGreatDoor
open Go.RowKit

end Go.Proofs.YthemehdcakimgaiGreatDoor
