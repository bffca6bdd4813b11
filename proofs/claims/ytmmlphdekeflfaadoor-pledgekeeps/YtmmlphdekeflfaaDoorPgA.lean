/- Pledges, plainly: columns, sums of rows, what a table that is 1 at one place extends to. -/
import Derived.Test.YtmmlphdekeflfaaDoorSumP
import Derived.Test.YtmmlphdekeflfaaDoorRefs
namespace Go.Proofs.YtmmlphdekeflfaaDoor
open Go.RowKit

/-- what rows have at a place -/
def pgc (rows : List (List Int)) (j : Nat) : List Int := rows.map fun r => zat r j
theorem pgc_len (rows : List (List Int)) (j : Nat) : (pgc rows j).length = rows.length := by simp [pgc]
theorem pgc_at {rows : List (List Int)} {i : Nat} (j : Nat) (h : i < rows.length) : zat (pgc rows j) i = zat (rat rows i) j := by
  simp [pgc, rat, zat, h]
theorem pgc_fits {rows : List (List Int)} (h : FitsR rows) (j : Nat) : Fits (pgc rows j) := fun i hi => by
  rw [pgc_len] at hi
  rw [pgc_at j hi]
  exact (h i hi).1.all j
theorem ps_sm (f : Nat → Int) (x : Int) (n : Nat) : Pol.ps f x n = Dom.sm (fun i => f i * x ^ i) n := by
  induction n with
  | zero => rfl
  | succ n ih => simp only [Pol.ps, Dom.sm]; rw [ih]
end Go.Proofs.YtmmlphdekeflfaaDoor
