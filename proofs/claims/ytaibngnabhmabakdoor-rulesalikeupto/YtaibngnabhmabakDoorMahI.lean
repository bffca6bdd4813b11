/- Package machine: step, the walk. -/
import Derived.Test.YtaibngnabhmabakDoorBaAG
namespace Go.Proofs.YtaibngnabhmabakDoor
open Go.RowKit Go.Maps

end Go.Proofs.YtaibngnabhmabakDoor
