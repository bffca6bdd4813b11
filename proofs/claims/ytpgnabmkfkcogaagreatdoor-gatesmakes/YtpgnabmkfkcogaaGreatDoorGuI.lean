/- The reference of package gates: Check, where its sizes are right. -/
import Derived.Test.YtpgnabmkfkcogaaGreatDoorGmAX
namespace Go.Proofs.YtpgnabmkfkcogaaGreatDoor
open Go.RowKit

end Go.Proofs.YtpgnabmkfkcogaaGreatDoor
