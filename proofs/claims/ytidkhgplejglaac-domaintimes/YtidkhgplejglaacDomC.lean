/- Package domain: Field, Size, Point, Points, Half. -/
import Derived.Test.YtidkhgplejglaacDomB
import Derived.Test.YtidkhgplejglaacOwns
import Derived.Test.YtidkhgplejglaacTold
import Derived.Deep.QuietTactic
import Derived.BigQuiet
namespace Go.Proofs.Ytidkhgplejglaac
open Go.RowKit

end Go.Proofs.Ytidkhgplejglaac
