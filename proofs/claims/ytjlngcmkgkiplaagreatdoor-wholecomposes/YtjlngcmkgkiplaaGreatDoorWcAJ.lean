
import Derived.Test.YtjlngcmkgkiplaaGreatDoorWcAI
import Derived.StillTailTactics
import Derived.Test.YtjlngcmkgkiplaaGreatDoorSpgs
import Derived.Test.YtjlngcmkgkiplaaGreatDoorDoms
import Derived.RangeFuncNested
import Derived.RangeFuncBound
import Derived.RangeFuncCalls
import Derived.RangeFuncLeaves
import Derived.RangeFuncBox
import Derived.RangeFuncWrites
import Derived.Shelf.Abstract
import Derived.WalkKit
import Derived.OwnWalkIn
import Derived.TacticsInMore
import Derived.LoopNIn
import Derived.LoopIn
import Derived.RegionIn
import Derived.BigRegionIn
import Derived.Test.YtjlngcmkgkiplaaGreatDoorFld
import Derived.OrdersIn
import Derived.OrdersHeld
set_option maxRecDepth 1000000
set_option maxHeartbeats 8000000
namespace Go.Proofs.YtjlngcmkgkiplaaGreatDoor
open Go.RowKit
open Go.RowKit Go.Maps
def cf3 (x y : Int × Int) : Int := if Lib.compareInt x.1 y.1 ≠ 0 then Lib.compareInt x.1 y.1 else Lib.compareInt x.2 y.2
theorem cmpi_cases (x y : Int) : (x < y /\ Lib.compareInt x y = -1) ∨ (x = y /\ Lib.compareInt x y = 0) ∨ (y < x /\ Lib.compareInt x y = 1) := by
 unfold Lib.compareInt
 by_cases h1 : x < y
 ·simp [h1]
 ·by_cases h2 : y < x
  ·simp [h1, h2]
  ·have : x = y := by omega
   simp [this]
theorem lt3 (x y : Int × Int) : ltOf cf3 x y = !decide (cle y x) := by
 have h1 := cmpi_cases x.1 y.1
 have h2 := cmpi_cases x.2 y.2
 have e : ltOf cf3 x y = decide (cf3 x y < 0) := rfl
 rw [e]
 unfold cf3 cle
 rcases h1 with ⟨a, b⟩ | ⟨a, b⟩ | ⟨a, b⟩
 ·rw [b]
  have : ¬ (y.1 < x.1 ∨ y.1 = x.1 /\ y.2 <= x.2) := by omega
  simp [this]
 ·rw [b]
  rcases h2 with ⟨c, d⟩ | ⟨c, d⟩ | ⟨c, d⟩
  ·rw [d]
   have : ¬ (y.1 < x.1 ∨ y.1 = x.1 /\ y.2 <= x.2) := by omega
   simp [this]
  ·rw [d]
   have : (y.1 < x.1 ∨ y.1 = x.1 /\ y.2 <= x.2) := by omega
   simp [this]
  ·rw [d]
   have : (y.1 < x.1 ∨ y.1 = x.1 /\ y.2 <= x.2) := by omega
   simp [this]
 ·rw [b]
  have : (y.1 < x.1 ∨ y.1 = x.1 /\ y.2 <= x.2) := by omega
  simp [this]
open Go.RowKit Go.Shelf
attribute [local go_sem] Oper.semAt_some
open Go
section
variable {F : Fence} {n : Nat} {P : Program} {ops : Array Oper} {Q : Exit -> Act -> World -> Prop} {md : Region.Mode} {S : World -> Prop}
end
end Go.Proofs.YtjlngcmkgkiplaaGreatDoor
