/- Package machine: walked. -/
import Derived.Test.YtaibngnabhmabakDoorBaAH
namespace Go.Proofs.YtaibngnabhmabakDoor
open Go.RowKit Go.Maps

end Go.Proofs.YtaibngnabhmabakDoor
