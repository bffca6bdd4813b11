/- attestref6.Do: what stands. -/
import Derived.Test.YtjibpfdhaejfdaaDoorMacD
namespace Go.Proofs.YtjibpfdhaejfdaaDoor
open Go.RowKit

structure Rg where
  pc : Int
  fp : Int
  ap : Int
  rv : Int
theorem ten {i : Nat} (h : i < 10) : i = 0 ∨ i = 1 ∨ i = 2 ∨ i = 3 ∨ i = 4 ∨ i = 5 ∨ i = 6 ∨ i = 7 ∨ i = 8 ∨ i = 9 := by omega
end Go.Proofs.YtjibpfdhaejfdaaDoor
