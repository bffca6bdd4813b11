/- Package tree: a walk's root, where it is not found: both its parts' roots. Package tree: a walk's root. Package tree: checked, where it is not taken. Two digests compared. Package tree: checked, where it is right by its form. Package tree: Check. -/
import Derived.Test.YtdpdmgmeieijaaaGreatDoorSndAU
import Derived.Test.YtdpdmgmeieijaaaGreatDoorSndAT
namespace Go.Proofs.YtdpdmgmeieijaaaGreatDoor
open Go.RowKit

def fs : Code → Code
  | .seq a _ => a
  | c => c
end Go.Proofs.YtdpdmgmeieijaaaGreatDoor

namespace Go.Proofs.YtdpdmgmeieijaaaGreatDoor
open Go.RowKit

end Go.Proofs.YtdpdmgmeieijaaaGreatDoor

namespace Go.Proofs.YtdpdmgmeieijaaaGreatDoor
open Go.RowKit

end Go.Proofs.YtdpdmgmeieijaaaGreatDoor

namespace Go.Proofs.YtdpdmgmeieijaaaGreatDoor
open Go.RowKit

end Go.Proofs.YtdpdmgmeieijaaaGreatDoor

namespace Go.Proofs.YtdpdmgmeieijaaaGreatDoor
open Go.RowKit

end Go.Proofs.YtdpdmgmeieijaaaGreatDoor

namespace Go.Proofs.YtdpdmgmeieijaaaGreatDoor
open Go.RowKit

end Go.Proofs.YtdpdmgmeieijaaaGreatDoor
