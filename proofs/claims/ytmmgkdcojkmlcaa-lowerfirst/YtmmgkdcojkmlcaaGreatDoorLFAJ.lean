/- attestref6.Do: op 2 attestref6.Do: op 3 attestref6.Do: op 4 attestref6.Do: op 6 -/
import Derived.Test.YtmmgkdcojkmlcaaGreatDoorLFAI
namespace Go.Proofs.YtmmgkdcojkmlcaaGreatDoor
open Go.RowKit

end Go.Proofs.YtmmgkdcojkmlcaaGreatDoor

namespace Go.Proofs.YtmmgkdcojkmlcaaGreatDoor
open Go.RowKit

end Go.Proofs.YtmmgkdcojkmlcaaGreatDoor

namespace Go.Proofs.YtmmgkdcojkmlcaaGreatDoor
open Go.RowKit

end Go.Proofs.YtmmgkdcojkmlcaaGreatDoor

namespace Go.Proofs.YtmmgkdcojkmlcaaGreatDoor
open Go.RowKit

end Go.Proofs.YtmmgkdcojkmlcaaGreatDoor
