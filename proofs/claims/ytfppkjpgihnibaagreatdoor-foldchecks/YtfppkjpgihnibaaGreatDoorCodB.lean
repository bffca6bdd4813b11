/- Package code: Is, Distance; the reference's Distance. -/
import Derived.Test.YtfppkjpgihnibaaGreatDoorCods
namespace Go.Proofs.YtfppkjpgihnibaaGreatDoor
open Go.RowKit

end Go.Proofs.YtfppkjpgihnibaaGreatDoor
