/- Package code: Distance; the reference's. -/
import Derived.Test.YtcajofdmadpmoaaDoorWbAB
import Derived.Deep.QuietTactic
namespace Go.Proofs.YtcajofdmadpmoaaDoor
open Go.RowKit

end Go.Proofs.YtcajofdmadpmoaaDoor
