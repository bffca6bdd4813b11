/- slices.Sort and slices.Compact at lists of numbers, by the library's own contracts: laid for this program. -/
import Derived.Shelf.Sort.Plain
import Derived.Shelf.Slices.CompactI
import Derived.Test.YtmmlphdekeflfaaDoorProg
namespace Go.Proofs
open Go.Shelf

end Go.Proofs
