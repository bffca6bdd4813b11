/- TreeBinds: the walk. -/
import Derived.Test.YtmmlphdekeflfaaGreatDoorTrhC
import Derived.Test.YtmmlphdekeflfaaGreatDoorPbAG
namespace Go.Proofs.YtmmlphdekeflfaaGreatDoor
open Go.RowKit

theorem samb_elr {q : Nat} {x y : List Int} : samb q x y = false ↔ elr q x ≠ elr q y := by
  rw [elr_map, elr_map]
  constructor
  · intro h e
    rw [samb_iff.2 e] at h
    cases h
  · intro h
    cases hs : samb q x y with
    | false => rfl
    | true => exact absurd (samb_iff.1 hs) h
end Go.Proofs.YtmmlphdekeflfaaGreatDoor
