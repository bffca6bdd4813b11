/- What package poly's Vanish and its helpers answer. -/
import Derived.Test.YtaapbopcfpihbaaDoorPolDiv
import Derived.Deep.RegionWith
namespace Go.Proofs.YtaapbopcfpihbaaDoor
open Go.RowKit

end Go.Proofs.YtaapbopcfpihbaaDoor
