/- SumsExtends: the walk. -/
import Derived.Test.YtaapbopcfpihbaaDoorGlAE
namespace Go.Proofs.YtaapbopcfpihbaaDoor
open Go.RowKit

end Go.Proofs.YtaapbopcfpihbaaDoor
