/- Package gates: levelOf. Package gates: what the gates of a layer are. Rows of rows that a call owns: one appended; package gates: valuesOf, Values. -/
import Derived.Test.YtaapbopcfpihbabGreatDoorGkAK
import Derived.Test.YtaapbopcfpihbabGreatDoorTres
import Derived.Test.YtaapbopcfpihbabGreatDoorGkAM
import Derived.Maps.AppendAt
namespace Go.Proofs.YtaapbopcfpihbabGreatDoor
open Go.RowKit

end Go.Proofs.YtaapbopcfpihbabGreatDoor

namespace Go.Proofs.YtaapbopcfpihbabGreatDoor
open Go.RowKit

end Go.Proofs.YtaapbopcfpihbabGreatDoor

namespace Go.Proofs.YtaapbopcfpihbabGreatDoor
open Go.RowKit

end Go.Proofs.YtaapbopcfpihbabGreatDoor
