/- attestref5: places, Shows. -/
import Derived.Test.YtcajofdmadpmoaaFolA
import Derived.Test.YtcajofdmadpmoaaTres
namespace Go.Proofs.Ytcajofdmadpmoaa
open Go.RowKit

end Go.Proofs.Ytcajofdmadpmoaa
