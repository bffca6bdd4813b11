/- Package machine: work, set, take, pass. Package machine: work, zero, halt, back, jump, others. Package machine: work, quotients. Package machine: work, calls. Package machine: cells, work and move for any instruction. attestref6.Walk: the walk. -/
import Derived.Test.YtmmgkdcojkmlcaaGreatDoorLFBA
import Derived.Test.YtmmgkdcojkmlcaaGreatDoorSpgs
import Derived.Test.YtmmgkdcojkmlcaaGreatDoorMahG
import Derived.Test.YtmmgkdcojkmlcaaGreatDoorLFBB
import Derived.Test.YtmmgkdcojkmlcaaGreatDoorLFAM
import Derived.Deep.RegionHeld3
namespace Go.Proofs.YtmmgkdcojkmlcaaGreatDoor
open Go.RowKit Go.Maps

end Go.Proofs.YtmmgkdcojkmlcaaGreatDoor

namespace Go.Proofs.YtmmgkdcojkmlcaaGreatDoor
open Go.RowKit Go.Maps

end Go.Proofs.YtmmgkdcojkmlcaaGreatDoor

namespace Go.Proofs.YtmmgkdcojkmlcaaGreatDoor
open Go.RowKit Go.Maps

end Go.Proofs.YtmmgkdcojkmlcaaGreatDoor

namespace Go.Proofs.YtmmgkdcojkmlcaaGreatDoor
open Go.RowKit Go.Maps

end Go.Proofs.YtmmgkdcojkmlcaaGreatDoor

namespace Go.Proofs.YtmmgkdcojkmlcaaGreatDoor
open Go.RowKit Go.Maps

end Go.Proofs.YtmmgkdcojkmlcaaGreatDoor

namespace Go.Proofs.YtmmgkdcojkmlcaaGreatDoor
open Go.RowKit

section
variable {P : Program} {ops : Array Oper} {Q : Exit → Act → World → Prop} {md : Region.Mode} {S : World → Prop}
end
/-- what is known at the loop's head -/
structure WkI (p limit : Nat) (L : List InsZ) (X : WR) (s : RM) (l : List (List Int)) (f : Nat) : Prop where
  is : X = mgo p L limit f { s with slot := 0 } l
  fuel : l.length + f = limit + 1
  pos : 1 ≤ f
  cs : ∀ j, j < s.cs.length → 0 ≤ (cat s.cs j).2 ∧ (cat s.cs j).2 < p
  len : s.cs.length ≤ 1 + 2 * l.length
  rg : RgB p ⟨s.pc, s.fp, s.ap, s.rv⟩
  err : s.err = 0
end Go.Proofs.YtmmgkdcojkmlcaaGreatDoor
