/- SourceEvals: What any program comes to, and how many parts are looked at, or why it does not, is as the document says. The variables errors.errorType, strconv.ErrRange, strconv.ErrSyntax, math/bits.deBruijn32tab, math/bits.deBruijn64tab and internal/strconv.uint64pow10 read as their texts lay them (tied). -/
import Derived.Test.YtlgcmeachjjmgajGreatDoorLawGEvals
import Derived.Test.YtlgcmeachjjmgajGreatDoorEnds
import Derived.Test.YtlgcmeachjjmgajGreatDoorTie
import Derived.Test.YtlgcmeachjjmgajGreatDoorCards
import Derived.SevenTiedAt
import Derived.Deep.DeepHandedRow
import Derived.Test.YtlgcmeachjjmgajGreatDoorOpenT
import Derived.Test.YtlgcmeachjjmgajGreatDoorBfG
namespace Go.Proofs.YtlgcmeachjjmgajGreatDoor
open Go.ChangeShapes Go.WideShapes Go.ChangeAt Go.RowKit
open Go.ChangeMaps (open_string shut_string)

end Go.Proofs.YtlgcmeachjjmgajGreatDoor
