/- SumsExtends: the walk. -/
import Derived.Test.YtecaifjbmfianagDoorSumW
namespace Go.Proofs.YtecaifjbmfianagDoor
open Go.RowKit

theorem ints_two (n0 n1 : Nat) (xs ys : List Int) (a b : Option Addr) (ca cb : Nat) (w : World) (ha : RowB n0 w a xs) (hb : RowB n1 w b ys) (hx : xs.length ≤ 9223372036854775807) (hy : ys.length ≤ 9223372036854775807) :
    Calls Tryd.prog 13 #[.slice a xs.length ca, .slice b ys.length cb] w fun e w' => e = .returned (.bool (decide (xs = ys))) ∧ ∃ n, w' = w.drewN n := ints_any xs ys _ _ w (rowZ_of_B ca ha) (rowZ_of_B cb hb) hx hy

end Go.Proofs.YtecaifjbmfianagDoor
