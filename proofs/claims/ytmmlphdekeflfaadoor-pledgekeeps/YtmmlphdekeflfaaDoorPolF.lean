/- What package poly's Vanish and its helpers answer. -/
import Derived.Test.YtmmlphdekeflfaaDoorPolDiv
import Derived.Deep.RegionWith
namespace Go.Proofs.YtmmlphdekeflfaaDoor
open Go.RowKit

end Go.Proofs.YtmmlphdekeflfaaDoor
