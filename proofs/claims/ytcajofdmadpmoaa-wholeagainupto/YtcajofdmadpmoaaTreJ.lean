/- attestsame.Opened. -/
import Derived.Test.YtcajofdmadpmoaaTres
import Derived.StillTailTactics
namespace Go.Proofs.Ytcajofdmadpmoaa
open Go.RowKit

end Go.Proofs.Ytcajofdmadpmoaa
