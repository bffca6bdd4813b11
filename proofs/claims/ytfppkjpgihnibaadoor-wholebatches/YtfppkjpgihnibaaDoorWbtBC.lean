/- Package machine: Run. Runs, plainly: a greater limit; one ascending list. Runs, plainly: what is told is told for good. attestref6.Run, plainly: the least cell above a number, again and again. attestlaw6: rans, plain. attestlaw6: plain, lives. -/
import Derived.Test.YtfppkjpgihnibaaDoorWbtAU
import Derived.Test.YtfppkjpgihnibaaDoorWbtBB
import Derived.Test.YtfppkjpgihnibaaDoorFld
namespace Go.Proofs.YtfppkjpgihnibaaDoor
open Go.RowKit Go.Maps

end Go.Proofs.YtfppkjpgihnibaaDoor

namespace Go.Proofs.YtfppkjpgihnibaaDoor
open Go.RowKit Go.Maps

end Go.Proofs.YtfppkjpgihnibaaDoor

namespace Go.Proofs.YtfppkjpgihnibaaDoor
open Go.RowKit Go.Maps

end Go.Proofs.YtfppkjpgihnibaaDoor

namespace Go.Proofs.YtfppkjpgihnibaaDoor
open Go.RowKit Go.Maps

end Go.Proofs.YtfppkjpgihnibaaDoor

namespace Go.Proofs.YtfppkjpgihnibaaDoor
open Go.RowKit Go.Maps

end Go.Proofs.YtfppkjpgihnibaaDoor

namespace Go.Proofs.YtfppkjpgihnibaaDoor
open Go.RowKit Go.Maps

end Go.Proofs.YtfppkjpgihnibaaDoor
