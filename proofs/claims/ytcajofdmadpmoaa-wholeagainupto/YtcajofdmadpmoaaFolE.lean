/- attestref5.Check, where it has as many Roots as rounds. -/
import Derived.Test.YtcajofdmadpmoaaWgAB
namespace Go.Proofs.Ytcajofdmadpmoaa
open Go.RowKit

end Go.Proofs.Ytcajofdmadpmoaa
