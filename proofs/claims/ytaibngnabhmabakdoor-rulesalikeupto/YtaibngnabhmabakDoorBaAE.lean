/- Package machine: cells that are told, as a map; look, tell, must, one. Package machine: next. -/
import Derived.Test.YtaibngnabhmabakDoorBaAD
import Derived.Maps.OwnOps
import Derived.Maps.OwnSet
import Derived.WalkLawsBesides
import Derived.StillTailTactics
namespace Go.Proofs.YtaibngnabhmabakDoor
open Go.RowKit Go.Maps

/-- what a cell is -/
def cvl (cs : List (Int × Int)) (x : Int) : Int := if 0 ≤ finz cs x then (cat cs (finz cs x).toNat).2 else 0
/-- a map that reads as cells that are told -/
def CMap (D : DataW Unit) (cs : List (Int × Int)) : Prop := ∀ x : Int, (-9223372036854775808 ≤ x ∧ x ≤ 9223372036854775807) → Maps.has D (.int .i64 x) = decide (0 ≤ finz cs x) ∧ D.atKey (.int .i64 x) (.lit (.int .i64 0)) = .lit (.int .i64 (cvl cs x))
def MapAt (w : World) (B n : Nat) (cs : List (Int × Int)) : Prop := ∃ D : DataW Unit, w.ownsMap Tryd.prog 3 (plainElem Tryd.prog 3) B n D ∧ CMap D cs
theorem MapAt.kept {w w' : World} {B n : Nat} {cs : List (Int × Int)} {row : Option Nat} (h : MapAt w B n cs) (hg : w.grownBy w' row) (hne : some B ≠ row) : MapAt w' B n cs := by
  obtain ⟨D, h1, h2⟩ := h
  exact ⟨D, h1.kept hg hne, h2⟩
end Go.Proofs.YtaibngnabhmabakDoor

namespace Go.Proofs.YtaibngnabhmabakDoor
open Go.RowKit Go.Maps

end Go.Proofs.YtaibngnabhmabakDoor
