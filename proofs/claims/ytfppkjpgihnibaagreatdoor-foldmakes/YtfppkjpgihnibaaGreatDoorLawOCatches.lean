/- FoldCatches: the walk. -/
import Derived.Test.YtfppkjpgihnibaaGreatDoorLawOKeeps
import Derived.Test.YtfppkjpgihnibaaGreatDoorSitC
namespace Go.Proofs.YtfppkjpgihnibaaGreatDoor
open Go.RowKit

theorem foldz_fits {p : Nat} (h3 : 3 ≤ p) (hm : p ≤ 2147483647) (m : Nat) (r s : Int) (word : List Int) (c : Int) : Fits (Fol.foldz p m r s word c) := fun j hj => by
  rw [Fol.foldz_len] at hj
  rw [Fol.foldz_at hj]
  have := Fol.pairz_bounds p (Dom.pt p s r j) (zat word j) (zat word (j + m)) c h3
  omega

end Go.Proofs.YtfppkjpgihnibaaGreatDoor
