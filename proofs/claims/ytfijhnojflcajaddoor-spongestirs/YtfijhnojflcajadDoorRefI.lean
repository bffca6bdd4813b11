/- attestref3, the digests: Hash; attestref1.Same; attestlaw3.differ. -/
import Derived.Test.YtfijhnojflcajadDoorRefH
namespace Go.Proofs.YtfijhnojflcajadDoor
open Go.RowKit

/-- four of a list are added to a state's first four places -/
def soak (q : Nat) (s P : Nat → Int) (t : Nat) (j : Nat) : Int := if j < 4 then (s j + P (4 * t + j)) % (q : Int) else s j
/-- the state behind t fours of a list -/
def hst (q n : Nat) (P : Nat → Int) : Nat → Nat → Int
  | 0, _ => 0
  | t + 1, j => stir q n (soak q (hst q n P t) P t) 8 j
theorem hst_bounds (q n : Nat) (P : Nat → Int) (t j : Nat) (h3 : 3 ≤ q) : 0 ≤ hst q n P t j ∧ hst q n P t j < q := by
  cases t with
  | zero => exact ⟨Int.le_refl _, by show (0 : Int) < q; omega⟩
  | succ t => exact stir_bounds _ _ _ _ _ h3
theorem pdf_bounds (q : Nat) (f : Nat → Int) (n j : Nat) (h3 : 3 ≤ q) : 0 ≤ pdf q f n j ∧ pdf q f n j < q := by
  unfold pdf
  split
  · exact emod_bounds _ q h3
  · split <;> omega

end Go.Proofs.YtfijhnojflcajadDoor
