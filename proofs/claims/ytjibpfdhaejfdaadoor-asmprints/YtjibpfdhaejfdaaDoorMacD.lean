/- attestref6: tell, reckoned. -/
import Derived.Test.YtjibpfdhaejfdaaDoorMacC
namespace Go.Proofs.YtjibpfdhaejfdaaDoor
open Go.RowKit

/-- what comes of two by an operation, and what becomes of the machine -/
def rkn (p : Nat) (op x y : Int) : Int := if op = 1 then (x + y) % p else if op = 2 then (x - y) % p else if op = 3 then x * y % p else if op = 4 then x * (invn p y : Int) % p else if x = y then 1 else 0
def RM.rck (s : RM) (op y : Int) : RM := if op = 4 then s.must (y != 0) else s

end Go.Proofs.YtjibpfdhaejfdaaDoor
