/- slices.Sort and slices.Compact at lists of numbers, by the library's own contracts: laid for this program. attestref1.Unlike: whether all of a list are unlike, as elements. areUnlike: sorted and compacted as long as before if and only if no two are the same element. -/
import Derived.Shelf.Sort.Plain
import Derived.Shelf.Slices.CompactI
import Derived.Test.YtaapbopcfpihbaaDoorProg
import Derived.Test.YtaapbopcfpihbaaDoorPls
import Derived.Deep.QuietTactic
import Derived.BigQuiet
import Derived.Sort.OwnSortedInts
namespace Go.Proofs
open Go.Shelf

end Go.Proofs

namespace Go.Proofs.YtaapbopcfpihbaaDoor
open Go.RowKit

end Go.Proofs.YtaapbopcfpihbaaDoor

namespace Go.Proofs.YtaapbopcfpihbaaDoor
open Go.RowKit Go.Sort

end Go.Proofs.YtaapbopcfpihbaaDoor
