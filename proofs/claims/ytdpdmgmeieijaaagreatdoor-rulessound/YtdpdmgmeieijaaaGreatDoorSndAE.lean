/- attestref6.Do: 12, 0 attestref6.Do: 13 attestref6.Do: any other attestref6.Do: any instruction. -/
import Derived.Test.YtdpdmgmeieijaaaGreatDoorSndAA
import Derived.Test.YtdpdmgmeieijaaaGreatDoorSndAB
import Derived.Test.YtdpdmgmeieijaaaGreatDoorSndAC
import Derived.Test.YtdpdmgmeieijaaaGreatDoorSndAD
namespace Go.Proofs.YtdpdmgmeieijaaaGreatDoor
open Go.RowKit

end Go.Proofs.YtdpdmgmeieijaaaGreatDoor

namespace Go.Proofs.YtdpdmgmeieijaaaGreatDoor
open Go.RowKit

end Go.Proofs.YtdpdmgmeieijaaaGreatDoor

namespace Go.Proofs.YtdpdmgmeieijaaaGreatDoor
open Go.RowKit

end Go.Proofs.YtdpdmgmeieijaaaGreatDoor

namespace Go.Proofs.YtdpdmgmeieijaaaGreatDoor
open Go.RowKit

end Go.Proofs.YtdpdmgmeieijaaaGreatDoor
