/- attestref5: places, Shows. -/
import Derived.Test.YtcajofdmadpmoaaDoorFolA
import Derived.Test.YtcajofdmadpmoaaDoorTres
namespace Go.Proofs.YtcajofdmadpmoaaDoor
open Go.RowKit

end Go.Proofs.YtcajofdmadpmoaaDoor
