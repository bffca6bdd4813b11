/- bits.OnesCount at any number of 64 bits: it counts bits; one bit alone is a power of two. What package attestref1's Vanish and Fit answer. attestref4: Variables, Over, weight, Extend, Fix, Total, At. -/
import Derived.Test.YtlhjifpomchnfaaGreatDoorDoms
import Derived.Test.YtlhjifpomchnfaaGreatDoorPoAD
import Derived.Test.YtlhjifpomchnfaaGreatDoorPls
import Derived.Test.YtlhjifpomchnfaaGreatDoorPoAE
import Derived.Test.YtlhjifpomchnfaaGreatDoorRefs
import Derived.Test.YtlhjifpomchnfaaGreatDoorPoAC
import Derived.BigQuiet
namespace Go.Proofs.YtlhjifpomchnfaaGreatDoor
open Go.RowKit

theorem t1 : ∀ (a : Fin 2) (c : Fin 256), (128 * a.val + c.val / 2) &&& 85 = c.val / 2 &&& 85 := by decide +kernel
end Go.Proofs.YtlhjifpomchnfaaGreatDoor

namespace Go.Proofs.YtlhjifpomchnfaaGreatDoor
open Go.RowKit

end Go.Proofs.YtlhjifpomchnfaaGreatDoor

namespace Go.Proofs.YtlhjifpomchnfaaGreatDoor
open Go.RowKit

/-- how many variables a table of so many has; -1: it is none -/
def vrs (n : Nat) : Int := match (List.range 13).find? (fun v => n == 2 ^ v) with
  | some v => v
  | none => -1
/-- how many variables several tables have; -1: they are none -/
def ovr (rows : List (List Int)) : Int := if 1 ≤ rows.length ∧ rows.length ≤ 4 ∧ ∀ k, k < rows.length → (rat rows k).length = (rat rows 0).length then vrs (rat rows 0).length else -1

end Go.Proofs.YtlhjifpomchnfaaGreatDoor
