/- attestref6: tell, reckoned. attestref6.Do: what stands. -/
import Derived.Test.YtaibngnabhmabakDoorBaAA
namespace Go.Proofs.YtaibngnabhmabakDoor
open Go.RowKit

/-- what comes of two by an operation, and what becomes of the machine -/
def rkn (p : Nat) (op x y : Int) : Int := if op = 1 then (x + y) % p else if op = 2 then (x - y) % p else if op = 3 then x * y % p else if op = 4 then x * (invn p y : Int) % p else if x = y then 1 else 0
def RM.rck (s : RM) (op y : Int) : RM := if op = 4 then s.must (y != 0) else s

end Go.Proofs.YtaibngnabhmabakDoor

namespace Go.Proofs.YtaibngnabhmabakDoor
open Go.RowKit

structure Rg where
  pc : Int
  fp : Int
  ap : Int
  rv : Int
theorem ten {i : Nat} (h : i < 10) : i = 0 ∨ i = 1 ∨ i = 2 ∨ i = 3 ∨ i = 4 ∨ i = 5 ∨ i = 6 ∨ i = 7 ∨ i = 8 ∨ i = 9 := by omega
end Go.Proofs.YtaibngnabhmabakDoor
