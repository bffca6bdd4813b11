/- attestlaw5.lives; FoldKeeps: the walk. -/
import Derived.Test.YtfppkjpgihnibaaGreatDoorCods
import Derived.Test.YtfppkjpgihnibaaGreatDoorPls
namespace Go.Proofs.YtfppkjpgihnibaaGreatDoor
open Go.RowKit

end Go.Proofs.YtfppkjpgihnibaaGreatDoor
