/- attestref2: Point. attestref2: Pair, Fold. -/
import Derived.Test.YtcajofdmadpmoaaPlain
import Derived.Test.YtcajofdmadpmoaaDoms
import Derived.Test.YtcajofdmadpmoaaRefs
import Derived.Test.YtcajofdmadpmoaaTres
import Derived.Deep.RegionHeld3
import Derived.Test.YtcajofdmadpmoaaFolP
namespace Go.Proofs.Ytcajofdmadpmoaa
open Go.RowKit

end Go.Proofs.Ytcajofdmadpmoaa

namespace Go.Proofs.Ytcajofdmadpmoaa
open Go.RowKit Pol

end Go.Proofs.Ytcajofdmadpmoaa
