/- attestref5.Check, where it has as many Roots as rounds. -/
import Derived.Test.YtcajofdmadpmoaaDoorWbAE
namespace Go.Proofs.YtcajofdmadpmoaaDoor
open Go.RowKit

end Go.Proofs.YtcajofdmadpmoaaDoor
