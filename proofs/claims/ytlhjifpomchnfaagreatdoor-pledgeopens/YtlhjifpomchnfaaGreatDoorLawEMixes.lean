
import Derived.Test.YtlhjifpomchnfaaGreatDoorPoAX
import Derived.Test.YtlhjifpomchnfaaGreatDoorPoBB
import Derived.Test.YtlhjifpomchnfaaGreatDoorPoAP
import Derived.Test.YtlhjifpomchnfaaGreatDoorPoAY
import Derived.Test.YtlhjifpomchnfaaGreatDoorPoAJ
import Derived.Test.YtlhjifpomchnfaaGreatDoorPoAL
import Derived.Test.YtlhjifpomchnfaaGreatDoorFld
set_option maxRecDepth 1000000
set_option maxHeartbeats 8000000
namespace Go.Proofs.YtlhjifpomchnfaaGreatDoor
open Go.RowKit
theorem rvariables_any (n cap : Nat) (a : Option Addr) (w : World) : Calls Tryz.prog 9 #[.slice a n cap] w fun e w' => e = .returned (.int .i64 (vrs n)) /\ w' = w := rvars_any n cap a w
theorem vrs_bounds (n : Nat) : -1 <= vrs n /\ vrs n <= 12 := by
 by_cases e : ∃ v : Nat, v <= 12 /\ n = 2 ^ v
 ·obtain ⟨v, h1, h2⟩ := e
  rw [vrs_yes h1 h2]
  omega
 ·rw [vrs_no (fun v hv h => e ⟨v, hv, h⟩)]
  omega
end Go.Proofs.YtlhjifpomchnfaaGreatDoor
