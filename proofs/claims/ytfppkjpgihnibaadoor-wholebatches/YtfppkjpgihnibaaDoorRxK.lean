/- Package rules: what is said of a row, piece by piece. -/
import Derived.Test.YtfppkjpgihnibaaDoorWbtAM
import Derived.Test.YtfppkjpgihnibaaDoorOrdVal
namespace Go.Proofs.YtfppkjpgihnibaaDoor
open Go.RowKit Go.Maps

end Go.Proofs.YtfppkjpgihnibaaDoor
