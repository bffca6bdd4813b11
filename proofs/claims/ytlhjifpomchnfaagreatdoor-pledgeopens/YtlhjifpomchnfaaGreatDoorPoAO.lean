/- Package pledge: isTold. attestref12: two, Powers, Dot, Sum, Unit, Units. attestref12: Sum, Unit, Units, Fits. -/
import Derived.Test.YtlhjifpomchnfaaGreatDoorPoAI
import Derived.Test.YtlhjifpomchnfaaGreatDoorPoAN
import Derived.Test.YtlhjifpomchnfaaGreatDoorPoAE
import Derived.Test.YtlhjifpomchnfaaGreatDoorSpgs
import Derived.Test.YtlhjifpomchnfaaGreatDoorPoAK
import Derived.StillTailTactics
namespace Go.Proofs.YtlhjifpomchnfaaGreatDoor
open Go.RowKit

end Go.Proofs.YtlhjifpomchnfaaGreatDoor

namespace Go.Proofs.YtlhjifpomchnfaaGreatDoor
open Go.RowKit

end Go.Proofs.YtlhjifpomchnfaaGreatDoor

namespace Go.Proofs.YtlhjifpomchnfaaGreatDoor
open Go.RowKit

theorem own_step {base size n : Nat} {e : TypeId} {v : Value} {xs : List Value} {w W : World} (h : w.ownsRow base e size v n xs) (hb : Below w.heap.size w W) : W.ownsRow base e size v n xs :=
  h.kept (row := none) ⟨hb.os, hb.tape, hb.output, hb.size, fun k hk _ => hb.block k hk⟩ (by cases v.ownBlock <;> simp)

end Go.Proofs.YtlhjifpomchnfaaGreatDoor
