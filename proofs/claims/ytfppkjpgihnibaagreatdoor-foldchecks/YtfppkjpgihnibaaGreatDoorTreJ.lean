/- attestsame.Opened. -/
import Derived.Test.YtfppkjpgihnibaaGreatDoorTres
import Derived.StillTailTactics
namespace Go.Proofs.YtfppkjpgihnibaaGreatDoor
open Go.RowKit

end Go.Proofs.YtfppkjpgihnibaaGreatDoor
