/- What package fold's Fold must answer; attestlaw5.plain, lives. -/
import Derived.Test.YtmmlphdekeflfaaDoorFolQ
import Derived.Test.YtmmlphdekeflfaaDoorDoms
namespace Go.Proofs.YtmmlphdekeflfaaDoor
open Go.RowKit

theorem DO.cir {w : World} {p b d n : Nat} {r s : Int} (D : DO w p b d n r s) : Fol.Cir p n r s := ⟨D.pr, D.h3, D.ord, D.hsd⟩
/-- a domain and half of it -/
structure Dh (w : World) (q b d h m : Nat) (r s : Int) : Prop where
  dom : DO w q b d (2 * m) r s
  half : DO w q b h m (r * r % (q : Int)) (s * s % (q : Int))
theorem Dh.step {w w' : World} {q b d h m : Nat} {r s : Int} (D : Dh w q b d h m r s) (e : Below w.heap.size w w') : Dh w' q b d h m r s := ⟨D.dom.step e, D.half.step e⟩
end Go.Proofs.YtmmlphdekeflfaaDoor
