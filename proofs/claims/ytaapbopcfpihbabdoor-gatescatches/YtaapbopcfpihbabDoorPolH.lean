/- What package poly's Fit answers. -/
import Derived.Test.YtaapbopcfpihbabDoorGcAB
import Derived.Test.YtaapbopcfpihbabDoorGcAC
import Derived.Test.YtaapbopcfpihbabDoorInvsB
namespace Go.Proofs.YtaapbopcfpihbabDoor
open Go.RowKit

/-- what the i-th product is multiplied by -/
def fc (p : Nat) (xs ys : List Int) (i : Nat) : Int := zat ys i * (invn p (evz p (vskl p xs i xs.length) (zat xs i)) : Int) % (p : Int)

/-- the sum of the first i products -/
def FS (p : Nat) (xs ys : List Int) : Nat → Nat → Int
  | 0 => Pol.zero
  | i + 1 => Pol.add (FS p xs ys i) (Pol.sc (fc p xs ys i) (Pol.vsk (zat xs) i xs.length))

theorem FS_zero (p : Nat) (xs ys : List Int) (i : Nat) (hi : i ≤ xs.length) (j : Nat) (hj : xs.length ≤ j) : FS p xs ys i j = 0 := by
  induction i with
  | zero => rfl
  | succ i ih =>
    rw [FS]; simp only [Pol.add, Pol.sc]
    rw [ih (by omega), Pol.vsk_zero _ _ _ _ (by omega) hj]; simp

/-- the polynomial through the points -/
def pfit (p : Nat) (xs ys : List Int) : List Int := Pol.mk p (FS p xs ys xs.length) xs.length

end Go.Proofs.YtaapbopcfpihbabDoor
