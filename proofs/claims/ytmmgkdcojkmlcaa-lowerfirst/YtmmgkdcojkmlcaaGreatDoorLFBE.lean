/- Package machine: steps. Package machine: begun. Package machine: wrong. Package machine: what walked defers. -/
import Derived.Test.YtmmgkdcojkmlcaaGreatDoorLFBD
import Derived.Test.YtmmgkdcojkmlcaaGreatDoorFld
import Derived.Defers
import Derived.Recover
namespace Go.Proofs.YtmmgkdcojkmlcaaGreatDoor
open Go.RowKit Go.Maps

/-- cells whose contents are elements -/
def CsB (p : Nat) (cs : List (Int × Int)) : Prop := ∀ j, j < cs.length → 0 ≤ (cat cs j).2 ∧ (cat cs j).2 < p
/-- what is known at the head of steps' loop -/
structure PkI (p limit : Nat) (L : List InsZ) (X : WR) (cs : List (Int × Int)) (n : Rg) (l : List (List Int)) (f : Nat) : Prop where
  is : X = mgo p L limit f (freshM cs n) l
  fuel : l.length + f = limit + 1
  pos : 1 ≤ f
  cb : CsB p cs
  zer : Zer cs
  rg : RgB p n
end Go.Proofs.YtmmgkdcojkmlcaaGreatDoor

namespace Go.Proofs.YtmmgkdcojkmlcaaGreatDoor
open Go.RowKit Go.Maps

end Go.Proofs.YtmmgkdcojkmlcaaGreatDoor

namespace Go.Proofs.YtmmgkdcojkmlcaaGreatDoor
open Go.RowKit Go.Maps

/-- an error, or none -/
def errV (z : Int) : Value := if z = 0 then .nilIface else .iface 57 (.int .i64 z)
end Go.Proofs.YtmmgkdcojkmlcaaGreatDoor

namespace Go.Proofs.YtmmgkdcojkmlcaaGreatDoor
open Go.RowKit Go.Maps

end Go.Proofs.YtmmgkdcojkmlcaaGreatDoor
