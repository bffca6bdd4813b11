/- attestref4: Fixed, Round, Check. attestref4: Check. -/
import Derived.Test.YtpgnabmkfkcogaaGreatDoorGxAO
import Derived.Test.YtpgnabmkfkcogaaGreatDoorTres
import Derived.Deep.RegionHeld3
namespace Go.Proofs.YtpgnabmkfkcogaaGreatDoor
open Go.RowKit

/-- all tables over one variable less -/
def fixr (p : Nat) (rows : List (List Int)) (r : Int) : List (List Int) := rows.map (fun t => fixl p t r)
theorem fixr_len (p : Nat) (rows : List (List Int)) (r : Int) : (fixr p rows r).length = rows.length := by simp [fixr]
theorem fixr_rat {p : Nat} {rows : List (List Int)} {r : Int} {k : Nat} (h : k < rows.length) : rat (fixr p rows r) k = fixl p (rat rows k) r := by simp [rat, fixr, h]
end Go.Proofs.YtpgnabmkfkcogaaGreatDoor

namespace Go.Proofs.YtpgnabmkfkcogaaGreatDoor
open Go.RowKit

end Go.Proofs.YtpgnabmkfkcogaaGreatDoor
