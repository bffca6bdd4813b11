/- The reference of package gates: Wire. -/
import Derived.Test.YtaapbopcfpihbaaDoorGtJ
import Derived.Test.YtaapbopcfpihbaaDoorGpAN
namespace Go.Proofs.YtaapbopcfpihbaaDoor
open Go.RowKit

end Go.Proofs.YtaapbopcfpihbaaDoor
