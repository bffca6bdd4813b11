/- SumsExtends: the walk. -/
import Derived.Test.YtaapbopcfpihbaaDoorGvAF
namespace Go.Proofs.YtaapbopcfpihbaaDoor
open Go.RowKit

end Go.Proofs.YtaapbopcfpihbaaDoor
