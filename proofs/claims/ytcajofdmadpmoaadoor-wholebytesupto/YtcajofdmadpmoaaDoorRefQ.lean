/- What package attestref1 answers of polynomials: Scaled, Minus, Times, for every list. -/
import Derived.Test.YtcajofdmadpmoaaDoorPls
namespace Go.Proofs.YtcajofdmadpmoaaDoor
open Go.RowKit

theorem padd_can {p : Nat} (h3 : 3 ≤ p) (xs ys : List Int) : Pol.Can p (Pol.padd p xs ys) := Pol.mk_can (by omega) _ _
theorem psub_can {p : Nat} (h3 : 3 ≤ p) (xs ys : List Int) : Pol.Can p (Pol.psub p xs ys) := Pol.mk_can (by omega) _ _
end Go.Proofs.YtcajofdmadpmoaaDoor
