/- Package chain: what it needs of slices, become, New. -/
import Derived.Test.YtcajofdmadpmoaaDoorChnC
import Derived.Test.YtcajofdmadpmoaaDoorSpgs
import Derived.Test.YtcajofdmadpmoaaDoorFld
import Derived.Lib.AppendZerosOnto
import Derived.Laws.CopyRow
import Derived.Deep.RegionHeld3
namespace Go.Proofs.YtcajofdmadpmoaaDoor
open Go.RowKit

end Go.Proofs.YtcajofdmadpmoaaDoor
