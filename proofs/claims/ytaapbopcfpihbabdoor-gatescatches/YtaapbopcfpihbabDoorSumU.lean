/- attestref4: Check. -/
import Derived.Test.YtaapbopcfpihbabDoorSumT
namespace Go.Proofs.YtaapbopcfpihbabDoor
open Go.RowKit

/-- what is claimed ahead of a round -/
def nowz (p : Nat) (claim : Int) (rounds : List (List Int)) (drawn : List Int) : Nat → Int
  | 0 => claim % (p : Int)
  | i + 1 => atz p (rat rounds i) (zat drawn i)
/-- it is shown -/
def ChkP (p : Nat) (claim d : Int) (rounds : List (List Int)) (finals drawn : List Int) : Prop :=
  1 ≤ d ∧ d ≤ 4 ∧ d < (p : Int) ∧ drawn.length ≤ 12 ∧ rounds.length = drawn.length ∧ (finals.length : Int) = d ∧ (∀ i, i < rounds.length → ((rat rounds i).length : Int) = d + 1) ∧
    (∀ i, i < rounds.length → (zat (rat rounds i) 0 + zat (rat rounds i) 1) % (p : Int) = nowz p claim rounds drawn i) ∧ Sum.prz (zat finals) finals.length % (p : Int) = nowz p claim rounds drawn rounds.length
end Go.Proofs.YtaapbopcfpihbabDoor
