/- Package machine: walked. Package machine: ascending, what is collected. Package machine: ascending. Package machine: slices.SortFunc at cells. Package machine: slices.SortFunc at cells, whole. -/
import Derived.Test.YtfppkjpgihnibaaDoorWbtAT
import Derived.Maps.RangeWalk
import Derived.Shelf.SlSortCmp.WholeK
import Derived.Lib.Small
import Derived.Test.YtfppkjpgihnibaaDoorWbtAO
import Derived.Shelf.SlSortCmp.NoneTotal
namespace Go.Proofs.YtfppkjpgihnibaaDoor
open Go.RowKit Go.Maps

end Go.Proofs.YtfppkjpgihnibaaDoor

namespace Go.Proofs.YtfppkjpgihnibaaDoor
open Go.RowKit Go.Maps

end Go.Proofs.YtfppkjpgihnibaaDoor

namespace Go.Proofs.YtfppkjpgihnibaaDoor
open Go.RowKit Go.Maps

end Go.Proofs.YtfppkjpgihnibaaDoor

namespace Go.Proofs.YtfppkjpgihnibaaDoor
open Go.RowKit Go.Maps

end Go.Proofs.YtfppkjpgihnibaaDoor

namespace Go.Proofs.YtfppkjpgihnibaaDoor
open Go.RowKit Go.Maps

end Go.Proofs.YtfppkjpgihnibaaDoor
