/- slices.Sort and slices.Compact at lists of numbers, by the library's own contracts: laid for this program. attestref1.Unlike: whether all of a list are unlike, as elements. -/
import Derived.Shelf.Sort.Plain
import Derived.Shelf.Slices.CompactI
import Derived.Test.YtaapbopcfpihbaaDoorProg
import Derived.Test.YtaapbopcfpihbaaDoorPls
import Derived.Deep.QuietTactic
import Derived.BigQuiet
namespace Go.Proofs
open Go.Shelf

end Go.Proofs

namespace Go.Proofs.YtaapbopcfpihbaaDoor
open Go.RowKit

end Go.Proofs.YtaapbopcfpihbaaDoor
