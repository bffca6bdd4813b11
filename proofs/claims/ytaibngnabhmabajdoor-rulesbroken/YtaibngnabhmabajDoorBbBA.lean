/- Package tree: a walk's root. Package tree: checked, where it is not taken. Two digests compared. Package tree: checked, where it is right by its form. Package tree: Check. slices.Sorted of slices.Values, slices.Compact: the places once each, ascending. Package rules: all cells of the steps that rows show, ascending, each once. -/
import Derived.Test.YtaibngnabhmabajDoorBbAZ
import Derived.Test.YtaibngnabhmabajDoorBbAY
import Derived.Shelf.Slices.In.SortNone
import Derived.Lib.SlKeysI
import Derived.Test.YtaibngnabhmabajDoorBbAX
import Derived.Test.YtaibngnabhmabajDoorTrhD
namespace Go.Proofs.YtaibngnabhmabajDoor
open Go.RowKit

end Go.Proofs.YtaibngnabhmabajDoor

namespace Go.Proofs.YtaibngnabhmabajDoor
open Go.RowKit

end Go.Proofs.YtaibngnabhmabajDoor

namespace Go.Proofs.YtaibngnabhmabajDoor
open Go.RowKit

end Go.Proofs.YtaibngnabhmabajDoor

namespace Go.Proofs.YtaibngnabhmabajDoor
open Go.RowKit

end Go.Proofs.YtaibngnabhmabajDoor

namespace Go.Proofs.YtaibngnabhmabajDoor
open Go.RowKit

end Go.Proofs.YtaibngnabhmabajDoor

namespace Go.Proofs.YtaibngnabhmabajDoor
open Go.RowKit Go.Sort

/-! ## plain -/
end Go.Proofs.YtaibngnabhmabajDoor

namespace Go.Proofs.YtaibngnabhmabajDoor
open Go.RowKit Go.Sort

end Go.Proofs.YtaibngnabhmabajDoor
