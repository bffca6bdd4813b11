
import Derived.Test.YtkdndfbfmchcpaaGreatDoorTgBA
import Derived.Test.YtkdndfbfmchcpaaGreatDoorTgBB
set_option maxRecDepth 1000000
set_option maxHeartbeats 8000000
namespace Go.Proofs.YtkdndfbfmchcpaaGreatDoor
open Go.RowKit
def opM (q v:Nat) (L:List Int) (t:List Int):List Int:=smr q (2 ^ (v / 2)) L (rwl (2 ^ (v-v / 2)) (2 ^ (v / 2)) t) (2 ^ (v-v / 2))
theorem Ga (q v:Nat) (L t:List Int):(opM q v L t).length=2 ^ (v-v / 2):=Gk _ _ _ _ _
end Go.Proofs.YtkdndfbfmchcpaaGreatDoor
