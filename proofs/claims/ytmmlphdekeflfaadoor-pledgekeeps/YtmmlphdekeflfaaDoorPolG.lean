/- What package poly's slopes and addWithoutRoot answer; plain facts on the polynomial through points. -/
import Derived.Test.YtmmlphdekeflfaaDoorPolF
import Derived.Test.YtmmlphdekeflfaaDoorPls
namespace Go.Proofs.YtmmlphdekeflfaaDoor
open Go.RowKit

theorem Cells.drewN {g o n : Nat} {f : Nat → Int} {W : World} (h : Cells g o n f W) (k : Nat) : Cells g o n f (W.drewN k) := ⟨h.cells, h.soft⟩

/-- the list of the product without x - xs[k], of the first i -/
def vskl (p : Nat) (xs : List Int) (k i : Nat) : List Int := Pol.mk p (Pol.vsk (zat xs) k i) (i + 1)

/-- what comes of dividing by x - root, from the last place down -/
def sd (p : Nat) (zs : List Int) (root : Int) (n : Nat) : Nat → Int
  | 0 => 0
  | i + 1 => (zat zs (n - i) + sd p zs root n i * root % (p : Int)) % (p : Int)
end Go.Proofs.YtmmlphdekeflfaaDoor
