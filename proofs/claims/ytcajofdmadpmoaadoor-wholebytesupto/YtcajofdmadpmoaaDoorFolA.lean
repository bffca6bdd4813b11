/- attestref5: Fault, pairs, modulo, places. -/
import Derived.Test.YtcajofdmadpmoaaDoorWbAD
import Derived.Test.YtcajofdmadpmoaaDoorChnA
import Derived.Test.YtcajofdmadpmoaaDoorTres
namespace Go.Proofs.YtcajofdmadpmoaaDoor
open Go.RowKit

/-! ## each once, ascending -/
/-! ## Fault -/
/-! ## pairs -/
/-! ## modulo -/
end Go.Proofs.YtcajofdmadpmoaaDoor
