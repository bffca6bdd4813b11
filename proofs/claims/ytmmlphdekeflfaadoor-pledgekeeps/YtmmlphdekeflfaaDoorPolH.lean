/- What package poly's Fit answers. -/
import Derived.Test.YtmmlphdekeflfaaDoorPolG
import Derived.Test.YtmmlphdekeflfaaDoorDistinct
import Derived.Test.YtmmlphdekeflfaaDoorInvsB
namespace Go.Proofs.YtmmlphdekeflfaaDoor
open Go.RowKit

/-- what the i-th product is multiplied by -/
def fc (p : Nat) (xs ys : List Int) (i : Nat) : Int := zat ys i * (invn p (evz p (vskl p xs i xs.length) (zat xs i)) : Int) % (p : Int)

end Go.Proofs.YtmmlphdekeflfaaDoor
