/- Package code: Distance; the reference's. -/
import Derived.Test.YtmmlphdekeflfaaDoorCodA
import Derived.Deep.QuietTactic
namespace Go.Proofs.YtmmlphdekeflfaaDoor
open Go.RowKit

/-- do two lists differ at a place? -/
def dq (p : Nat) (xs ys : List Int) (j : Nat) : Bool := !(decide (j < xs.length) && decide (j < ys.length) && (zat xs j % (p : Int) == zat ys j % (p : Int)))
/-- at how many places two lists differ -/
def dist (p : Nat) (xs ys : List Int) : Nat := Cod.cnt (dq p xs ys) (max xs.length ys.length)

end Go.Proofs.YtmmlphdekeflfaaDoor
