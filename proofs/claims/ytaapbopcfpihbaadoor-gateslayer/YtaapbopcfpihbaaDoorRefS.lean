/- What package attestref1's Vanish and Fit answer. -/
import Derived.Test.YtaapbopcfpihbaaDoorPolH
import Derived.Test.YtaapbopcfpihbaaDoorPls
namespace Go.Proofs.YtaapbopcfpihbaaDoor
open Go.RowKit

/-- the sum of the first i, as a list -/
def fl (p : Nat) (xs ys : List Int) (i : Nat) : List Int := Pol.mk p (FS p xs ys i) xs.length
end Go.Proofs.YtaapbopcfpihbaaDoor
