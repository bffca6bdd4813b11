/- Plain facts on mending a word: lists of places; what is 0 at given points alone; the polynomial that a word is of, but for few places, is what the division gives. -/
import Derived.Test.YtcajofdmadpmoaaPlain
import Derived.Test.YtcajofdmadpmoaaPolDiv
import Derived.Test.YtcajofdmadpmoaaDoms
import Derived.Test.YtcajofdmadpmoaaPolF
namespace Go.Proofs.Ytcajofdmadpmoaa
open Go.RowKit Pol

/-! ## 0 at given points alone -/
/-! ## the way back to the polynomial -/
end Go.Proofs.Ytcajofdmadpmoaa
