/- attestref2: Point. attestref2: Pair, Fold. -/
import Derived.Test.YtcajofdmadpmoaaDoorPlain
import Derived.Test.YtcajofdmadpmoaaDoorDoms
import Derived.Test.YtcajofdmadpmoaaDoorRefs
import Derived.Test.YtcajofdmadpmoaaDoorTres
import Derived.Deep.RegionHeld3
import Derived.Test.YtcajofdmadpmoaaDoorFolP
namespace Go.Proofs.YtcajofdmadpmoaaDoor
open Go.RowKit

end Go.Proofs.YtcajofdmadpmoaaDoor

namespace Go.Proofs.YtcajofdmadpmoaaDoor
open Go.RowKit Pol

end Go.Proofs.YtcajofdmadpmoaaDoor
