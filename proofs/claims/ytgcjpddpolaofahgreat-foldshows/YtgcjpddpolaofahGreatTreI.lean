/- attestref5.Row; attestsame.Openings. -/
import Derived.Test.YtgcjpddpolaofahGreatTres
import Derived.Test.YtgcjpddpolaofahGreatPls
import Derived.StillTailTactics
namespace Go.Proofs.YtgcjpddpolaofahGreat
open Go.RowKit

end Go.Proofs.YtgcjpddpolaofahGreat
