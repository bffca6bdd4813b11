/- attestref4: Check. -/
import Derived.Test.YtecaifjbmfianagDoorSumT
namespace Go.Proofs.YtecaifjbmfianagDoor
open Go.RowKit

/-- what is claimed ahead of a round -/
def nowz (p : Nat) (claim : Int) (rounds : List (List Int)) (drawn : List Int) : Nat → Int
  | 0 => claim % (p : Int)
  | i + 1 => atz p (rat rounds i) (zat drawn i)
/-- it is shown -/
def ChkP (p : Nat) (claim d : Int) (rounds : List (List Int)) (finals drawn : List Int) : Prop :=
  1 ≤ d ∧ d ≤ 4 ∧ d < (p : Int) ∧ drawn.length ≤ 12 ∧ rounds.length = drawn.length ∧ (finals.length : Int) = d ∧ (∀ i, i < rounds.length → ((rat rounds i).length : Int) = d + 1) ∧
    (∀ i, i < rounds.length → (zat (rat rounds i) 0 + zat (rat rounds i) 1) % (p : Int) = nowz p claim rounds drawn i) ∧ Sum.prz (zat finals) finals.length % (p : Int) = nowz p claim rounds drawn rounds.length
noncomputable def chkz (p : Nat) (claim d : Int) (rounds : List (List Int)) (finals drawn : List Int) : Bool := @decide (ChkP p claim d rounds finals drawn) (Classical.propDecidable _)
theorem chkz_yes {p : Nat} {claim d : Int} {rounds : List (List Int)} {finals drawn : List Int} (h : ChkP p claim d rounds finals drawn) : chkz p claim d rounds finals drawn = true := by unfold chkz; exact @decide_eq_true _ (Classical.propDecidable _) h
theorem chkz_no {p : Nat} {claim d : Int} {rounds : List (List Int)} {finals drawn : List Int} (h : ¬ ChkP p claim d rounds finals drawn) : chkz p claim d rounds finals drawn = false := by unfold chkz; exact @decide_eq_false _ (Classical.propDecidable _) h
theorem dua0 {W : World} {g : Nat} {a b : Value} {t : TypeId} (h : W.heap[g]? = some (.cells #[a, b] t (0, 0))) : W.cell? ⟨g, 0, none⟩ = some a := by simp [World.cell?, h]
theorem dua1 {W : World} {g : Nat} {a b : Value} {t : TypeId} (h : W.heap[g]? = some (.cells #[a, b] t (0, 0))) : W.cell? ⟨g, 1, none⟩ = some b := by simp [World.cell?, h]

end Go.Proofs.YtecaifjbmfianagDoor
