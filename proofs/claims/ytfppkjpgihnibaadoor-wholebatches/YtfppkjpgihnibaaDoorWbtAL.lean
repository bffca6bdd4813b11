/- Package rules: what an instruction works. Package rules: what an instruction works. -/
import Derived.Test.YtfppkjpgihnibaaDoorWbtAJ
namespace Go.Proofs.YtfppkjpgihnibaaDoor
open Go.RowKit Go.Maps

end Go.Proofs.YtfppkjpgihnibaaDoor

namespace Go.Proofs.YtfppkjpgihnibaaDoor
open Go.RowKit Go.Maps

end Go.Proofs.YtfppkjpgihnibaaDoor
