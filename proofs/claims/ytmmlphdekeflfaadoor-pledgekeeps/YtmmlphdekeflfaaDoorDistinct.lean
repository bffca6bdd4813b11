/- areUnlike: sorted and compacted as long as before if and only if no two are the same element. -/
import Derived.Test.YtmmlphdekeflfaaDoorSorted
import Derived.Test.YtmmlphdekeflfaaDoorUnlike
import Derived.Sort.OwnSortedInts
namespace Go.Proofs.YtmmlphdekeflfaaDoor
open Go.RowKit Go.Sort

end Go.Proofs.YtmmlphdekeflfaaDoor
