/- attestref4: Fixed, Round, Check. -/
import Derived.Test.YtaapbopcfpihbabDoorSumS
import Derived.Test.YtaapbopcfpihbabDoorTres
import Derived.Deep.RegionHeld3
namespace Go.Proofs.YtaapbopcfpihbabDoor
open Go.RowKit

/-- all tables over one variable less -/
def fixr (p : Nat) (rows : List (List Int)) (r : Int) : List (List Int) := rows.map (fun t => fixl p t r)
theorem fixr_len (p : Nat) (rows : List (List Int)) (r : Int) : (fixr p rows r).length = rows.length := by simp [fixr]
theorem fixr_rat {p : Nat} {rows : List (List Int)} {r : Int} {k : Nat} (h : k < rows.length) : rat (fixr p rows r) k = fixl p (rat rows k) r := by simp [rat, fixr, h]
theorem fixl_fits {p : Nat} (h3 : 3 ≤ p) (hm : p ≤ 2147483647) (t : List Int) (r : Int) : Fits (fixl p t r) := fun j hj => by
  rw [fixl_len] at hj
  rw [fixl_at hj]
  have := emod_bounds (zat t j * (1 - r) + zat t (j + t.length / 2) * r) p h3
  omega
theorem fixr_fits {p : Nat} (h3 : 3 ≤ p) (hm : p ≤ 2147483647) (rows : List (List Int)) (r : Int) : ∀ k, k < (fixr p rows r).length → Fits (rat (fixr p rows r) k) := fun k hk => by
  rw [fixr_len] at hk
  rw [fixr_rat hk]
  exact fixl_fits h3 hm _ _
/-- the Totals with the first variable 0, 1, .. -/
def rndl (p : Nat) (rows : List (List Int)) : List Int := ls (fun x => totz p (fixr p rows (x : Int))) (rows.length + 1)
theorem rndl_len (p : Nat) (rows : List (List Int)) : (rndl p rows).length = rows.length + 1 := ls_len _ _

end Go.Proofs.YtaapbopcfpihbabDoor
