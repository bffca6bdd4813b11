/- slices.Backward over a list of numbers, by its own text: what comes round by round, from the end of the list on. -/
import Derived.RangeFuncNested
import Derived.RangeFuncBound
import Derived.RangeFuncCalls
import Derived.RangeFuncLeaves
import Derived.RangeFuncBox
import Derived.RangeFuncWrites
import Derived.Shelf.Abstract
import Derived.WalkKit
import Derived.OwnWalkIn
import Derived.TacticsInMore
import Derived.LoopNIn
import Derived.LoopIn
import Derived.Test.YtecaifjbmfianafDoorFld
namespace Go.Proofs.YtecaifjbmfianafDoor
open Go.RowKit Go.Shelf

attribute [local go_sem] Oper.semAt_some

/-- what has come when k rounds are over -/
def upto {α : Type} (f : Nat → α) (k : Nat) : List α := (List.range k).map f
theorem upto_succ {α : Type} (f : Nat → α) (k : Nat) : upto f (k + 1) = upto f k ++ [f k] := by simp [upto, List.range_succ]
theorem upto_length {α : Type} (f : Nat → α) (k : Nat) : (upto f k).length = k := by simp [upto]

/-- these places have come, from the end on -/
def Came (zs : List Int) (pre : List (Fin zs.length)) (k : Nat) : Prop := pre.map (fun i => i.val) = upto (fun j => zs.length - 1 - j) k
theorem came_nil (zs : List Int) : Came zs [] 0 := rfl
theorem came_snoc {zs : List Int} {pre : List (Fin zs.length)} {k : Nat} (h : Came zs pre k) (x : Fin zs.length) (hx : x.val = zs.length - 1 - k) : Came zs (pre ++ [x]) (k + 1) := by
  unfold Came at *
  rw [List.map_append, h, upto_succ]; simp [hx]
theorem came_length {zs : List Int} {pre : List (Fin zs.length)} {k : Nat} (h : Came zs pre k) : pre.length = k := by
  have := congrArg List.length h
  simpa [upto] using this
theorem came_inv {zs : List Int} {pre : List (Fin zs.length)} {x : Fin zs.length} {k : Nat} (h : Came zs (pre ++ [x]) (k + 1)) : Came zs pre k ∧ x.val = zs.length - 1 - k := by
  unfold Came at *
  rw [List.map_append, upto_succ] at h
  obtain ⟨h1, h2⟩ := List.append_inj' h rfl
  exact ⟨h1, by simpa using h2⟩

/-- what a round keeps: all below n0, and the box of the list -/
def KeepsB (n0 Bs : Nat) (A B : World) : Prop := Below n0 A B ∧ B.cell? ⟨Bs, 0, none⟩ = A.cell? ⟨Bs, 0, none⟩
theorem KeepsB.refl (n0 Bs : Nat) (A : World) : KeepsB n0 Bs A A := ⟨Below.refl _ _, rfl⟩
theorem KeepsB.trans {n0 Bs : Nat} {A B C : World} (h : KeepsB n0 Bs A B) (k : KeepsB n0 Bs B C) : KeepsB n0 Bs A C := ⟨h.1.trans k.1, k.2.trans h.2⟩

end Go.Proofs.YtecaifjbmfianafDoor
