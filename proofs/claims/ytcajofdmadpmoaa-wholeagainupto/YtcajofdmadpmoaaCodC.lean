/- Package code: Distance; the reference's. -/
import Derived.Test.YtcajofdmadpmoaaCodA
import Derived.Deep.QuietTactic
namespace Go.Proofs.Ytcajofdmadpmoaa
open Go.RowKit

end Go.Proofs.Ytcajofdmadpmoaa
