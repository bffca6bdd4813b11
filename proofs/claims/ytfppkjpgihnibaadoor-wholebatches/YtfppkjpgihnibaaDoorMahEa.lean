/- Package machine: work, sums, differences, products. -/
import Derived.Test.YtfppkjpgihnibaaDoorWbtAP
import Derived.Test.YtfppkjpgihnibaaDoorSpgs
namespace Go.Proofs.YtfppkjpgihnibaaDoor
open Go.RowKit Go.Maps

end Go.Proofs.YtfppkjpgihnibaaDoor
