/- attestref12: two, Powers, Dot, Sum, Unit, Units. attestref12: Sum, Unit, Units, Fits. -/
import Derived.Test.YtmmlphdekeflfaaGreatDoorPgA
import Derived.Test.YtmmlphdekeflfaaGreatDoorSpgs
import Derived.Test.YtmmlphdekeflfaaGreatDoorPbAP
import Derived.StillTailTactics
namespace Go.Proofs.YtmmlphdekeflfaaGreatDoor
open Go.RowKit

end Go.Proofs.YtmmlphdekeflfaaGreatDoor

namespace Go.Proofs.YtmmlphdekeflfaaGreatDoor
open Go.RowKit

theorem own_step {base size n : Nat} {e : TypeId} {v : Value} {xs : List Value} {w W : World} (h : w.ownsRow base e size v n xs) (hb : Below w.heap.size w W) : W.ownsRow base e size v n xs :=
  h.kept (row := none) ⟨hb.os, hb.tape, hb.output, hb.size, fun k hk _ => hb.block k hk⟩ (by cases v.ownBlock <;> simp)

end Go.Proofs.YtmmlphdekeflfaaGreatDoor
