/- What package poly's Fit answers. -/
import Derived.Test.YtaapbopcfpihbaaDoorPolG
import Derived.Test.YtaapbopcfpihbaaDoorGlAB
import Derived.Test.YtaapbopcfpihbaaDoorInvsB
namespace Go.Proofs.YtaapbopcfpihbaaDoor
open Go.RowKit

/-- what the i-th product is multiplied by -/
def fc (p : Nat) (xs ys : List Int) (i : Nat) : Int := zat ys i * (invn p (evz p (vskl p xs i xs.length) (zat xs i)) : Int) % (p : Int)

/-- the sum of the first i products -/
def FS (p : Nat) (xs ys : List Int) : Nat → Nat → Int
  | 0 => Pol.zero
  | i + 1 => Pol.add (FS p xs ys i) (Pol.sc (fc p xs ys i) (Pol.vsk (zat xs) i xs.length))

/-- the polynomial through the points -/
def pfit (p : Nat) (xs ys : List Int) : List Int := Pol.mk p (FS p xs ys xs.length) xs.length

end Go.Proofs.YtaapbopcfpihbaaDoor
