/- attestref12: two, Powers, Dot, Sum, Unit, Units. attestref12: Sum, Unit, Units, Fits. -/
import Derived.Test.YtaapbopcfpihbaaDoorGlAF
import Derived.Test.YtaapbopcfpihbaaDoorSpgs
import Derived.Test.YtaapbopcfpihbaaDoorSumS
import Derived.StillTailTactics
namespace Go.Proofs.YtaapbopcfpihbaaDoor
open Go.RowKit

end Go.Proofs.YtaapbopcfpihbaaDoor

namespace Go.Proofs.YtaapbopcfpihbaaDoor
open Go.RowKit

theorem own_step {base size n : Nat} {e : TypeId} {v : Value} {xs : List Value} {w W : World} (h : w.ownsRow base e size v n xs) (hb : Below w.heap.size w W) : W.ownsRow base e size v n xs :=
  h.kept (row := none) ⟨hb.os, hb.tape, hb.output, hb.size, fun k hk _ => hb.block k hk⟩ (by cases v.ownBlock <;> simp)

end Go.Proofs.YtaapbopcfpihbaaDoor
