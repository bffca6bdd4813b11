/- attestref1.Unlike: whether all of a list are unlike, as elements. -/
import Derived.Test.YtecaifjbmfianafDoorPls
import Derived.Deep.QuietTactic
import Derived.BigQuiet
namespace Go.Proofs.YtecaifjbmfianafDoor
open Go.RowKit

/-- no two of the first n are the same element -/
def Unl (p : Nat) (f : Nat → Int) (n : Nat) : Prop := ∀ i j, i < j → j < n → f i % (p : Int) ≠ f j % (p : Int)

noncomputable def unlB (p : Nat) (zs : List Int) : Bool := @decide (Unl p (zat zs) zs.length) (Classical.propDecidable _)
theorem unlB_yes {p : Nat} {zs : List Int} (h : Unl p (zat zs) zs.length) : unlB p zs = true := by unfold unlB; exact @decide_eq_true _ (Classical.propDecidable _) h
theorem unlB_no {p : Nat} {zs : List Int} (h : ¬ Unl p (zat zs) zs.length) : unlB p zs = false := by unfold unlB; exact @decide_eq_false _ (Classical.propDecidable _) h

end Go.Proofs.YtecaifjbmfianafDoor
