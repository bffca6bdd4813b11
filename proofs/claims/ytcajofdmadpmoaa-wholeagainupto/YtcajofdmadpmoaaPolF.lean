/- What package poly's Vanish and its helpers answer. -/
import Derived.Test.YtcajofdmadpmoaaPolDiv
import Derived.Deep.RegionWith
namespace Go.Proofs.Ytcajofdmadpmoaa
open Go.RowKit

/-- the product of x - xs[i] of the first n, modulo p -/
def vn (p : Nat) (xs : List Int) (n : Nat) : Nat → Int := fun j => Pol.van (zat xs) n j % (p : Int)
end Go.Proofs.Ytcajofdmadpmoaa
