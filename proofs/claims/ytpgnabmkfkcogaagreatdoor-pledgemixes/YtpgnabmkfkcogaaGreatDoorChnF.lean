/- Package chain: New, Take, Draw, Draws, Place, Digest, Fork. -/
import Derived.Test.YtpgnabmkfkcogaaGreatDoorChnE
namespace Go.Proofs.YtpgnabmkfkcogaaGreatDoor
open Go.RowKit

end Go.Proofs.YtpgnabmkfkcogaaGreatDoor
