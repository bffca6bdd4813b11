/- Package machine: walked. Package machine: ascending, what is collected. Package machine: ascending. -/
import Derived.Test.YtmmgkdcojkmlcaaGreatDoorLFBE
import Derived.Maps.RangeWalk
namespace Go.Proofs.YtmmgkdcojkmlcaaGreatDoor
open Go.RowKit Go.Maps

/-- how a run that begins ends: steps, then what is deferred -/
theorem errV_nz {z : Int} (h : z ≠ 0) : errV z = .iface 57 (.int .i64 z) := by unfold errV; rw [if_neg h]
end Go.Proofs.YtmmgkdcojkmlcaaGreatDoor

namespace Go.Proofs.YtmmgkdcojkmlcaaGreatDoor
open Go.RowKit Go.Maps

end Go.Proofs.YtmmgkdcojkmlcaaGreatDoor

namespace Go.Proofs.YtmmgkdcojkmlcaaGreatDoor
open Go.RowKit Go.Maps

end Go.Proofs.YtmmgkdcojkmlcaaGreatDoor
