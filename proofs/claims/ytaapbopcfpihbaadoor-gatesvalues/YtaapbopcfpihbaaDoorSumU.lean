/- attestref4: Check. -/
import Derived.Test.YtaapbopcfpihbaaDoorSumT
namespace Go.Proofs.YtaapbopcfpihbaaDoor
open Go.RowKit

end Go.Proofs.YtaapbopcfpihbaaDoor
