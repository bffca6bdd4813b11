/- attestref4: weight, Extend, Fix, Total, At. attestref4: Fixed, Round, Check. -/
import Derived.Test.YtlhjifpomchnfaaGreatDoorPoAJ
import Derived.Test.YtlhjifpomchnfaaGreatDoorTres
import Derived.Deep.RegionHeld3
namespace Go.Proofs.YtlhjifpomchnfaaGreatDoor
open Go.RowKit

/-- the table over one variable less: the first is r -/
def fixl (p : Nat) (t : List Int) (r : Int) : List Int := ls (fun i => (zat t i * (1 - r) + zat t (i + t.length / 2) * r) % (p : Int)) (t.length / 2)
theorem fixl_len (p : Nat) (t : List Int) (r : Int) : (fixl p t r).length = t.length / 2 := ls_len _ _
theorem fixl_at {p : Nat} {t : List Int} {r : Int} {i : Nat} (h : i < t.length / 2) : zat (fixl p t r) i = (zat t i * (1 - r) + zat t (i + t.length / 2) * r) % (p : Int) := ls_at _ _ _ h

/-- the sum of products -/
def totz (p : Nat) (rows : List (List Int)) : Int := Dom.sm (fun i => Sum.prz (fun k => zat (rat rows k) i) rows.length) (rat rows 0).length % (p : Int)
theorem totz_bounds (p : Nat) (rows : List (List Int)) (h3 : 3 ≤ p) : 0 ≤ totz p rows ∧ totz p rows < p := emod_bounds _ p h3

/-- 0, 1, .. -/
def cnt' (n : Nat) : List Int := ls (fun i => (i : Int)) n
theorem cnt_len (n : Nat) : (cnt' n).length = n := ls_len _ _
/-- what the polynomial that is l at 0, 1, .. is at r -/
def atz (p : Nat) (l : List Int) (r : Int) : Int := evz p (pfit p (cnt' l.length) l) r
end Go.Proofs.YtlhjifpomchnfaaGreatDoor

namespace Go.Proofs.YtlhjifpomchnfaaGreatDoor
open Go.RowKit

/-- all tables over one variable less -/
def fixr (p : Nat) (rows : List (List Int)) (r : Int) : List (List Int) := rows.map (fun t => fixl p t r)
theorem fixr_len (p : Nat) (rows : List (List Int)) (r : Int) : (fixr p rows r).length = rows.length := by simp [fixr]
theorem fixr_rat {p : Nat} {rows : List (List Int)} {r : Int} {k : Nat} (h : k < rows.length) : rat (fixr p rows r) k = fixl p (rat rows k) r := by simp [rat, fixr, h]
/-- the Totals with the first variable 0, 1, .. -/
def rndl (p : Nat) (rows : List (List Int)) : List Int := ls (fun x => totz p (fixr p rows (x : Int))) (rows.length + 1)
theorem rndl_len (p : Nat) (rows : List (List Int)) : (rndl p rows).length = rows.length + 1 := ls_len _ _

end Go.Proofs.YtlhjifpomchnfaaGreatDoor
