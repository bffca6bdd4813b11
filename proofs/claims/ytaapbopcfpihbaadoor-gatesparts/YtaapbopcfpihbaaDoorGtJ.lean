/- Package gates: wire. -/
import Derived.Test.YtaapbopcfpihbaaDoorGpAL
namespace Go.Proofs.YtaapbopcfpihbaaDoor
open Go.RowKit

end Go.Proofs.YtaapbopcfpihbaaDoor
