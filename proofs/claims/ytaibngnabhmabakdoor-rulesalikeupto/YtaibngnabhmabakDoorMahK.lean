/- Package machine: steps. -/
import Derived.Test.YtaibngnabhmabakDoorMahI
import Derived.Test.YtaibngnabhmabakDoorMahJ
namespace Go.Proofs.YtaibngnabhmabakDoor
open Go.RowKit Go.Maps

/-- cells whose contents are elements -/
def CsB (p : Nat) (cs : List (Int × Int)) : Prop := ∀ j, j < cs.length → 0 ≤ (cat cs j).2 ∧ (cat cs j).2 < p
/-- what is known at the head of steps' loop -/
structure PkI (p limit : Nat) (L : List InsZ) (X : WR) (cs : List (Int × Int)) (n : Rg) (l : List (List Int)) (f : Nat) : Prop where
  is : X = mgo p L limit f (freshM cs n) l
  fuel : l.length + f = limit + 1
  pos : 1 ≤ f
  cb : CsB p cs
  zer : Zer cs
  rg : RgB p n
end Go.Proofs.YtaibngnabhmabakDoor
