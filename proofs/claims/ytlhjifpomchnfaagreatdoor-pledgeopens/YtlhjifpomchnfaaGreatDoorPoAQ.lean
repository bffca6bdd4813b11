
import Derived.Test.YtlhjifpomchnfaaGreatDoorCodA
import Derived.Deep.QuietTactic
import Derived.Test.YtlhjifpomchnfaaGreatDoorPlain
import Derived.Test.YtlhjifpomchnfaaGreatDoorDoms
import Derived.Test.YtlhjifpomchnfaaGreatDoorRefs
import Derived.Test.YtlhjifpomchnfaaGreatDoorTres
import Derived.Deep.RegionHeld3
set_option maxRecDepth 1000000
set_option maxHeartbeats 8000000
namespace Go.Proofs.YtlhjifpomchnfaaGreatDoor
open Go.RowKit
end Go.Proofs.YtlhjifpomchnfaaGreatDoor
namespace Go.Proofs.YtlhjifpomchnfaaGreatDoor.Fol
open Pol Dom
end Go.Proofs.YtlhjifpomchnfaaGreatDoor.Fol
namespace Go.Proofs.YtlhjifpomchnfaaGreatDoor
open Go.RowKit
theorem four0 {W : World} {g : Nat} {a b c d : Value} {t : TypeId} (h : W.heap[g]? = some (.cells #[a, b, c, d] t (0, 0))) : W.cell? ⟨g, 0, none⟩ = some a := by simp [World.cell?, h]
theorem four1 {W : World} {g : Nat} {a b c d : Value} {t : TypeId} (h : W.heap[g]? = some (.cells #[a, b, c, d] t (0, 0))) : W.cell? ⟨g, 1, none⟩ = some b := by simp [World.cell?, h]
theorem four2 {W : World} {g : Nat} {a b c d : Value} {t : TypeId} (h : W.heap[g]? = some (.cells #[a, b, c, d] t (0, 0))) : W.cell? ⟨g, 2, none⟩ = some c := by simp [World.cell?, h]
theorem four3 {W : World} {g : Nat} {a b c d : Value} {t : TypeId} (h : W.heap[g]? = some (.cells #[a, b, c, d] t (0, 0))) : W.cell? ⟨g, 3, none⟩ = some d := by simp [World.cell?, h]
open Go.RowKit Pol
end Go.Proofs.YtlhjifpomchnfaaGreatDoor
