/- Package machine: cells. -/
import Derived.Test.YtaibngnabhmabakDoorBaAE
namespace Go.Proofs.YtaibngnabhmabakDoor
open Go.RowKit Go.Maps

def I64 (x : Int) : Prop := -9223372036854775808 ≤ x ∧ x ≤ 9223372036854775807
end Go.Proofs.YtaibngnabhmabakDoor
