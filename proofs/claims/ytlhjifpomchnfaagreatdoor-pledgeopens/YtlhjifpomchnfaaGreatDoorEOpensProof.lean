/- PledgeOpens: any table is shown at any point as the document tells, or what is wrong is told; Check takes what is shown, and it is what the table Extends to: for all arguments. The variables errors.errorType and math/bits.deBruijn32tab, deBruijn64tab read as their texts lay them (tied). -/
import Derived.Test.YtlhjifpomchnfaaGreatDoorLawEOpens
import Derived.Test.YtlhjifpomchnfaaGreatDoorEnds
import Derived.Test.YtlhjifpomchnfaaGreatDoorTie
import Derived.Test.YtlhjifpomchnfaaGreatDoorCards
import Derived.SevenTiedAt
import Derived.Deep.DeepHandedRow
import Derived.Test.YtlhjifpomchnfaaGreatDoorLaidX
namespace Go.Proofs.YtlhjifpomchnfaaGreatDoor
open Go.ChangeShapes Go.WideShapes Go.ChangeAt Go.RowKit
open Go.ChangeMaps (open_string shut_string)

end Go.Proofs.YtlhjifpomchnfaaGreatDoor
