/- attestsame.Sponge, attestlaw3's plain and lives. -/
import Derived.Test.YtcajofdmadpmoaaSpgs
import Derived.Test.YtcajofdmadpmoaaDoms
namespace Go.Proofs.Ytcajofdmadpmoaa
open Go.RowKit

end Go.Proofs.Ytcajofdmadpmoaa
