/- Package gates: sideOf. A region that draws its order, by what every operation keeps: one proof an operation, whatever the order. Own laws. -/
import Derived.Test.YtaapbopcfpihbabGreatDoorGkAM
import Derived.Test.YtaapbopcfpihbabGreatDoorHeldS
import Derived.Below
namespace Go.Proofs.YtaapbopcfpihbabGreatDoor
open Go.RowKit

end Go.Proofs.YtaapbopcfpihbabGreatDoor

namespace Go.Proofs.YtaapbopcfpihbabGreatDoor
open Go

section
variable {P : Program} {ops : Array Oper} {Q : Exit → Act → World → Prop} {md : Region.Mode}

/-- places and what they hold: one more -/
def upd' (σ : Nat → Value) (i : Nat) (v : Value) : Nat → Value := fun k => if k = i then v else σ k

/-- each that has come up holds what is told of it -/
def Told (n : Nat) (F : World → Nat → Value → Prop) (L : Array Bool) (w : World) (σ : Nat → Value) : Prop := ∀ k, k < n → L.getD k false = true → F w k (σ k)

theorem Told.one {n : Nat} {F : World → Nat → Value → Prop} {L : Array Bool} {w w' : World} {σ : Nat → Value} (h : Told n F L w σ) {i : Nat} {v : Value} (hm : ∀ k u, F w k u → F w' k u) (hv : F w' i v) : Told n F (L.setIfInBounds i true) w' (upd' σ i v) := fun k hk hl => by
  unfold upd'
  by_cases e : k = i
  · rw [if_pos e, e]; exact hv
  · rw [if_neg e]
    refine hm _ _ (h k hk ?_)
    simp only [Array.getD_eq_getD_getElem?] at *
    rwa [Array.getElem?_setIfInBounds_ne (Ne.symm e)] at hl

/-- what a region keeps whose one store comes last -/
structure KeepS (n : Nat) (F : World → Nat → Value → Prop) (Fin : World → (Nat → Value) → Prop) (W0 : World) (gA : (Nat → Value) → Act) (L : Array Bool) (a : Act) (w : World) : Prop where
  below : RowKit.Below W0.heap.size W0 w
  told : ∃ σ, a = gA σ ∧ (L.getD n false = false → Told n F L w σ) ∧ (L.getD n false = true → Fin w σ)

theorem getD_set_other {L : Array Bool} {i k : Nat} (h : i ≠ k) : (L.setIfInBounds i true).getD k false = L.getD k false := by
  simp only [Array.getD_eq_getD_getElem?]
  rw [Array.getElem?_setIfInBounds_ne h]

theorem KeepS.next {n : Nat} {F : World → Nat → Value → Prop} {Fin : World → (Nat → Value) → Prop} {W0 : World} {gA : (Nat → Value) → Act} {L : Array Bool} {w w' : World} {σ : Nat → Value} {i : Nat} {v : Value} {a' : Act}
    (hb : RowKit.Below W0.heap.size W0 w') (hn : L.getD n false = false) (hi : i ≠ n) (ht : Told n F L w σ) (hm : ∀ k u, F w k u → F w' k u) (hv : F w' i v) (ha : a' = gA (upd' σ i v)) : KeepS n F Fin W0 gA (L.setIfInBounds i true) a' w' :=
  ⟨hb, upd' σ i v, ha, fun _ => ht.one hm hv, fun h => by rw [getD_set_other hi, hn] at h; cases h⟩
end
end Go.Proofs.YtaapbopcfpihbabGreatDoor
