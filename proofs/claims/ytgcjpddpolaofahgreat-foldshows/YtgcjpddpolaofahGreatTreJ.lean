/- attestsame.Opened. -/
import Derived.Test.YtgcjpddpolaofahGreatTres
import Derived.StillTailTactics
namespace Go.Proofs.YtgcjpddpolaofahGreat
open Go.RowKit

end Go.Proofs.YtgcjpddpolaofahGreat
