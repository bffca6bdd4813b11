/- SumsExtends: the walk. -/
import Derived.Test.YtaapbopcfpihbaaDoorGpAI
namespace Go.Proofs.YtaapbopcfpihbaaDoor
open Go.RowKit

end Go.Proofs.YtaapbopcfpihbaaDoor
