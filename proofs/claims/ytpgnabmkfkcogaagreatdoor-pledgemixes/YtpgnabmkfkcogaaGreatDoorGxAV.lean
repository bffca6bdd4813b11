/- Package pledge: isTold. Package pledge: weights, extend. -/
import Derived.Test.YtpgnabmkfkcogaaGreatDoorGxAM
import Derived.Test.YtpgnabmkfkcogaaGreatDoorGxAS
namespace Go.Proofs.YtpgnabmkfkcogaaGreatDoor
open Go.RowKit

end Go.Proofs.YtpgnabmkfkcogaaGreatDoor

namespace Go.Proofs.YtpgnabmkfkcogaaGreatDoor
open Go.RowKit

end Go.Proofs.YtpgnabmkfkcogaaGreatDoor
