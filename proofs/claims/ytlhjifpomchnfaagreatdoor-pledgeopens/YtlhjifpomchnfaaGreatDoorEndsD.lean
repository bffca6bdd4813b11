/- The premise of the rows: package errors' own variable reads as its text lays it; what that gives a walk, and a world that meets it. A world for the witness: package errors' own variable holds what its text lays. -/
import Derived.Test.YtlhjifpomchnfaaGreatDoorFld
import Derived.Test.YtlhjifpomchnfaaGreatDoorEnds
import Derived.ChangeSame
import Derived.ChangeVars
import Derived.JoinedOf
import Derived.RowKit
import Derived.RowKitTokens
import Derived.LaidLaws
import Derived.LaidHandle
import Derived.Stop.Joined
import Derived.ProofKit
import Derived.OpenShut
namespace Go.Proofs.YtlhjifpomchnfaaGreatDoor
open Go.ChangeShapes Go.WideShapes Go.RowKit

theorem Tryz.rt : (Tryz.prog.cutTypes.find? (·.1 == "internal/reflectlite.rtype")).map (·.2) = some 256 := by kernel_rfl
theorem Tryz.size : Tryz.prog.types.size = 331 := by kernel_rfl

end Go.Proofs.YtlhjifpomchnfaaGreatDoor

namespace Go.Proofs.YtlhjifpomchnfaaGreatDoor

end Go.Proofs.YtlhjifpomchnfaaGreatDoor
