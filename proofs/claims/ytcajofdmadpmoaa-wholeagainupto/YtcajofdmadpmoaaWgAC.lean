/- attestref5.Check, where it has more or fewer Roots than rounds; attestsame.Folds. attestsame.Folds of what is the same. -/
import Derived.Test.YtcajofdmadpmoaaFolE
namespace Go.Proofs.Ytcajofdmadpmoaa
open Go.RowKit

end Go.Proofs.Ytcajofdmadpmoaa

namespace Go.Proofs.Ytcajofdmadpmoaa
open Go.RowKit

/-- two boxes -/
structure BxI (B : Nat) (x1 x2 x3 y1 y2 y3 : Value) (w W : World) : Prop where
  bel : Below w.heap.size w W
  one : W.heap[B]? = some (.cells #[x1, x2, x3] 28 (0, 0))
  two : W.heap[B + 1]? = some (.cells #[y1, y2, y3] 28 (0, 0))
theorem BxI.step {B : Nat} {x1 x2 x3 y1 y2 y3 : Value} {w W W' : World} (h : BxI B x1 x2 x3 y1 y2 y3 w W) (e : Below W.heap.size W W') : BxI B x1 x2 x3 y1 y2 y3 w W' :=
  ⟨h.bel.trans (e.mono h.bel.size), (e.block _ (Array.getElem?_eq_some_iff.1 h.one).1).trans h.one, (e.block _ (Array.getElem?_eq_some_iff.1 h.two).1).trans h.two⟩

end Go.Proofs.Ytcajofdmadpmoaa
