/- Package machine: work, same, must. Package machine: work, set, take, pass. Package machine: work, zero, halt, back, jump, others. -/
import Derived.Test.YtfppkjpgihnibaaDoorWbtAP
import Derived.Test.YtfppkjpgihnibaaDoorSpgs
namespace Go.Proofs.YtfppkjpgihnibaaDoor
open Go.RowKit Go.Maps

end Go.Proofs.YtfppkjpgihnibaaDoor

namespace Go.Proofs.YtfppkjpgihnibaaDoor
open Go.RowKit Go.Maps

end Go.Proofs.YtfppkjpgihnibaaDoor

namespace Go.Proofs.YtfppkjpgihnibaaDoor
open Go.RowKit Go.Maps

end Go.Proofs.YtfppkjpgihnibaaDoor
