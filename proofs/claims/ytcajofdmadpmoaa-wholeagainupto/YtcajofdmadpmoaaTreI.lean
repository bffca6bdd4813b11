/- attestref5.Row; attestsame.Openings. -/
import Derived.Test.YtcajofdmadpmoaaTres
import Derived.Test.YtcajofdmadpmoaaPls
import Derived.StillTailTactics
namespace Go.Proofs.Ytcajofdmadpmoaa
open Go.RowKit

end Go.Proofs.Ytcajofdmadpmoaa
