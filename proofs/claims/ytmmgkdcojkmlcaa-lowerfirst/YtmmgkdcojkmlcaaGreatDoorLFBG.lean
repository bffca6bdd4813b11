/- attestref6.Walk: the walk. Package machine: Walk; the document's, where the code is wrong. MachineWalks: the walk. -/
import Derived.Test.YtmmgkdcojkmlcaaGreatDoorLFBC
import Derived.Test.YtmmgkdcojkmlcaaGreatDoorLFBF
import Derived.Test.YtmmgkdcojkmlcaaGreatDoorFld
namespace Go.Proofs.YtmmgkdcojkmlcaaGreatDoor
open Go.RowKit

end Go.Proofs.YtmmgkdcojkmlcaaGreatDoor

namespace Go.Proofs.YtmmgkdcojkmlcaaGreatDoor
open Go.RowKit Go.Maps

end Go.Proofs.YtmmgkdcojkmlcaaGreatDoor

namespace Go.Proofs.YtmmgkdcojkmlcaaGreatDoor
open Go.RowKit Go.Maps

theorem error_same (z : Int) (w : World) (hL : Laid w) : Calls Tryz.prog 8 #[errV z, .int .i64 z] w fun e w' => e = .returned (.bool true) ∧ Below w.heap.size w w' := by
  by_cases hz : z = 0
  · subst hz
    refine (error_nil 0 w).mono ?_
    rintro e w' ⟨rfl, rfl⟩
    exact ⟨rfl, Below.refl _ _⟩
  · rw [errV_nz hz]
    refine (error_hit z z w hL).mono ?_
    rintro e w' ⟨rfl, hb⟩
    exact ⟨by simp, hb⟩

end Go.Proofs.YtmmgkdcojkmlcaaGreatDoor
