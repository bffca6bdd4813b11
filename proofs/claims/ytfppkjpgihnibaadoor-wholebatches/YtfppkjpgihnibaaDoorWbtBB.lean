/- attestref6.Walk: the walk. Package machine: Walk; the document's, where the code is wrong. MachineWalks: the walk. -/
import Derived.Test.YtfppkjpgihnibaaDoorWbtAR
import Derived.Test.YtfppkjpgihnibaaDoorWbtAU
import Derived.Test.YtfppkjpgihnibaaDoorFld
namespace Go.Proofs.YtfppkjpgihnibaaDoor
open Go.RowKit

end Go.Proofs.YtfppkjpgihnibaaDoor

namespace Go.Proofs.YtfppkjpgihnibaaDoor
open Go.RowKit Go.Maps

end Go.Proofs.YtfppkjpgihnibaaDoor

namespace Go.Proofs.YtfppkjpgihnibaaDoor
open Go.RowKit Go.Maps

end Go.Proofs.YtfppkjpgihnibaaDoor
