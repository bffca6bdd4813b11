/- Package machine: cells. Package machine: what work comes to. -/
import Derived.Test.YtmmgkdcojkmlcaaGreatDoorLFAZ
import Derived.Deep.RegionHeld3
namespace Go.Proofs.YtmmgkdcojkmlcaaGreatDoor
open Go.RowKit Go.Maps

end Go.Proofs.YtmmgkdcojkmlcaaGreatDoor

namespace Go.Proofs.YtmmgkdcojkmlcaaGreatDoor
open Go.RowKit Go.Maps

section
variable {P : Program} {ops : Array Oper} {Q : Exit → Act → World → Prop} {md : Region.Mode} {S : World → Prop}
end

theorem MapAt.mono {w : World} {B n m : Nat} {cs : List (Int × Int)} (h : MapAt w B n cs) (e : n ≤ m) : MapAt w B m cs := by
  obtain ⟨D, h1, h2⟩ := h
  exact ⟨D, h1.mono e, h2⟩
end Go.Proofs.YtmmgkdcojkmlcaaGreatDoor
