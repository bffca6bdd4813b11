/- Package chain: New, Take, Draw, Draws, Place, Digest, Fork. -/
import Derived.Test.YtcajofdmadpmoaaDoorChnE
namespace Go.Proofs.YtcajofdmadpmoaaDoor
open Go.RowKit

end Go.Proofs.YtcajofdmadpmoaaDoor
