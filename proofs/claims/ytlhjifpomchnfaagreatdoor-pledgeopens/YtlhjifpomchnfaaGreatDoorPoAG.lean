/- Package tree: joined, hash, seeRow. Package tree: a walk's root. A region that draws its order, by what every operation keeps: one proof an operation, whatever the order. Own laws. Package tree: a walk's root, where it is not found. -/
import Derived.Test.YtlhjifpomchnfaaGreatDoorTrgs
import Derived.Test.YtlhjifpomchnfaaGreatDoorPoAA
import Derived.Test.YtlhjifpomchnfaaGreatDoorHeldS
import Derived.Below
namespace Go.Proofs.YtlhjifpomchnfaaGreatDoor
open Go.RowKit

end Go.Proofs.YtlhjifpomchnfaaGreatDoor

namespace Go.Proofs.YtlhjifpomchnfaaGreatDoor
open Go.RowKit

/-- what is found is right -/
def Snd (M : Nat → Nat → Option (List Int)) (D : Nat → Nat → List Int) : Prop := ∀ a b d, M a b = some d → d = D a b
/-- what was found stays -/
def Sub (M M' : Nat → Nat → Option (List Int)) : Prop := ∀ a b, M a b ≠ none → M' a b ≠ none
/-- of what is new both parts are found -/
def ClM (M M' : Nat → Nat → Option (List Int)) : Prop := ∀ a b, M' a b ≠ none → M a b ≠ none ∨ (2 ≤ b - a ∧ M' a (a + lft (b - a)) ≠ none ∧ M' (a + lft (b - a)) b ≠ none)

/-- the first of a walk's root: is it found? -/
structure RootW (w W1 : World) (g B s x y : Nat) (M : Nat → Nat → Option (List Int)) : Prop where
  below : Below w.heap.size w W1
  size : W1.heap.size = w.heap.size + 2
  key : W1.rowIs w.heap.size 201 2 (duo (.int .i64 (x : Int)) (.int .i64 (y : Int)))
  res : ArrI W1 (w.heap.size + 1) 213 4 (fun _ => 0)
  map : MapIs W1 B M
  c1 : W1.cell? ⟨g, 1, none⟩ = some (.map (some B))
end Go.Proofs.YtlhjifpomchnfaaGreatDoor

namespace Go.Proofs.YtlhjifpomchnfaaGreatDoor
open Go

section
variable {P : Program} {ops : Array Oper} {Q : Exit → Act → World → Prop} {md : Region.Mode}

/-- places and what they hold: one more -/
def upd' (σ : Nat → Value) (i : Nat) (v : Value) : Nat → Value := fun k => if k = i then v else σ k

/-- each that has come up holds what is told of it -/
def Told (n : Nat) (F : World → Nat → Value → Prop) (L : Array Bool) (w : World) (σ : Nat → Value) : Prop := ∀ k, k < n → L.getD k false = true → F w k (σ k)

theorem Told.one {n : Nat} {F : World → Nat → Value → Prop} {L : Array Bool} {w w' : World} {σ : Nat → Value} (h : Told n F L w σ) {i : Nat} {v : Value} (hm : ∀ k u, F w k u → F w' k u) (hv : F w' i v) : Told n F (L.setIfInBounds i true) w' (upd' σ i v) := fun k hk hl => by
  unfold upd'
  by_cases e : k = i
  · rw [if_pos e, e]; exact hv
  · rw [if_neg e]
    refine hm _ _ (h k hk ?_)
    simp only [Array.getD_eq_getD_getElem?] at *
    rwa [Array.getElem?_setIfInBounds_ne (Ne.symm e)] at hl

/-- what a region keeps whose one store comes last -/
structure KeepS (n : Nat) (F : World → Nat → Value → Prop) (Fin : World → (Nat → Value) → Prop) (W0 : World) (gA : (Nat → Value) → Act) (L : Array Bool) (a : Act) (w : World) : Prop where
  below : RowKit.Below W0.heap.size W0 w
  told : ∃ σ, a = gA σ ∧ (L.getD n false = false → Told n F L w σ) ∧ (L.getD n false = true → Fin w σ)

theorem getD_set_other {L : Array Bool} {i k : Nat} (h : i ≠ k) : (L.setIfInBounds i true).getD k false = L.getD k false := by
  simp only [Array.getD_eq_getD_getElem?]
  rw [Array.getElem?_setIfInBounds_ne h]

theorem KeepS.next {n : Nat} {F : World → Nat → Value → Prop} {Fin : World → (Nat → Value) → Prop} {W0 : World} {gA : (Nat → Value) → Act} {L : Array Bool} {w w' : World} {σ : Nat → Value} {i : Nat} {v : Value} {a' : Act}
    (hb : RowKit.Below W0.heap.size W0 w') (hn : L.getD n false = false) (hi : i ≠ n) (ht : Told n F L w σ) (hm : ∀ k u, F w k u → F w' k u) (hv : F w' i v) (ha : a' = gA (upd' σ i v)) : KeepS n F Fin W0 gA (L.setIfInBounds i true) a' w' :=
  ⟨hb, upd' σ i v, ha, fun _ => ht.one hm hv, fun h => by rw [getD_set_other hi, hn] at h; cases h⟩
end
end Go.Proofs.YtlhjifpomchnfaaGreatDoor

namespace Go.Proofs.YtlhjifpomchnfaaGreatDoor
open Go.RowKit

/-- the map, while its two parts are worked out -/
def PMx (D : Nat → Nat → List Int) (M : Nat → Nat → Option (List Int)) (B x m y : Nat) (u v : Bool) (W : World) : Prop :=
  ∃ M', MapIs W B M' ∧ Snd M' D ∧ Sub M M' ∧ ClM M M' ∧ (u = true → M' x m ≠ none) ∧ (v = true → M' m y ≠ none)
theorem PMx.block {D : Nat → Nat → List Int} {M : Nat → Nat → Option (List Int)} {B x m y : Nat} {u v : Bool} {W W' : World} (h : PMx D M B x m y u v W) (e : W'.heap[B]? = W.heap[B]?) : PMx D M B x m y u v W' := by
  obtain ⟨M', h1, r⟩ := h
  exact ⟨M', h1.block e, r⟩
def d4 (d : List Int) : Value := .agg #[.int .i64 (zat d 0), .int .i64 (zat d 1), .int .i64 (zat d 2), .int .i64 (zat d 3)]
end Go.Proofs.YtlhjifpomchnfaaGreatDoor
