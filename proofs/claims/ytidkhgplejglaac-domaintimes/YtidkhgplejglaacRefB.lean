/- What attestref1.Order, Generator and Root and the field's methods Root and P answer: the same on both sides. -/
import Derived.Test.YtidkhgplejglaacOrder
import Derived.Test.YtidkhgplejglaacRef
namespace Go.Proofs.Ytidkhgplejglaac
open Go.RowKit

theorem el_nat (p s : Nat) (h : s < p) : el p (s : Int) = s := by
  unfold el; rw [Int.emod_eq_of_lt (by omega) (by omega)]; simp

end Go.Proofs.Ytidkhgplejglaac
