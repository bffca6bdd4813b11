/- attestref5: Fault, pairs, modulo, places. -/
import Derived.Test.YtcajofdmadpmoaaWgAA
import Derived.Test.YtcajofdmadpmoaaChnA
import Derived.Test.YtcajofdmadpmoaaTres
namespace Go.Proofs.Ytcajofdmadpmoaa
open Go.RowKit

/-! ## each once, ascending -/
/-! ## Fault -/
/-! ## pairs -/
/-! ## modulo -/
end Go.Proofs.Ytcajofdmadpmoaa
