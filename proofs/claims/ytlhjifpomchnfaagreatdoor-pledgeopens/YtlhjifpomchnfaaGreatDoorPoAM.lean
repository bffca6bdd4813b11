/- What bits.TrailingZeros answers in this program, by the library's own contract, where its table reads as its text lays it. Package sums: variables, by the table that counts last zeros. Package pledge: shapeOf of a table of any length. slices.Chunk with any step, and slices.Collect over it: the rows of a table. Package pledge: rows, columns. -/
import Derived.Shelf.Spec.TrailingZeros
import Derived.Lib.TrailingZeros
import Derived.Test.YtlhjifpomchnfaaGreatDoorProg
import Derived.Test.YtlhjifpomchnfaaGreatDoorPoAL
import Derived.Test.YtlhjifpomchnfaaGreatDoorPoAI
import Derived.Test.YtlhjifpomchnfaaGreatDoorPoAJ
import Derived.RangeFuncNested
import Derived.RangeFuncBound
import Derived.RangeFuncCalls
import Derived.RangeFuncLeaves
import Derived.RangeFuncBox
import Derived.RangeFuncWrites
import Derived.Shelf.Abstract
import Derived.WalkKit
import Derived.OwnWalkIn
import Derived.TacticsInMore
import Derived.LoopNIn
import Derived.LoopIn
import Derived.RegionIn
import Derived.BigRegionIn
import Derived.Test.YtlhjifpomchnfaaGreatDoorChk
import Derived.Test.YtlhjifpomchnfaaGreatDoorPoAA
import Derived.Test.YtlhjifpomchnfaaGreatDoorPoAE
import Derived.Test.YtlhjifpomchnfaaGreatDoorCodA
import Derived.Test.YtlhjifpomchnfaaGreatDoorDoms
import Derived.Test.YtlhjifpomchnfaaGreatDoorTres
namespace Go.Proofs
open Go.Shelf
end Go.Proofs

namespace Go.Proofs.YtlhjifpomchnfaaGreatDoor
open Go.RowKit

end Go.Proofs.YtlhjifpomchnfaaGreatDoor

namespace Go.Proofs.YtlhjifpomchnfaaGreatDoor
open Go.RowKit Go.Shelf

end Go.Proofs.YtlhjifpomchnfaaGreatDoor

namespace Go.Proofs.YtlhjifpomchnfaaGreatDoor
open Go.RowKit Go.Shelf

attribute [local go_sem] Oper.semAt_some

end Go.Proofs.YtlhjifpomchnfaaGreatDoor

namespace Go.Proofs.YtlhjifpomchnfaaGreatDoor
open Go.RowKit

/-- columns in a block of lists -/
def ColI (g N m : Nat) (w : World) (L : List (List Int)) (j : Nat) : Prop := ∃ B : Nat → Nat, w.rowIs g 22 N (fun i => if i < j then .slice (some ⟨B i, 0, none⟩) m m else .slice none 0 0) ∧ ∀ i, i < j → g < B i ∧ ArrI w (B i) 3 m (zat (pgc L i))
theorem ColI.below {g N m : Nat} {w w' : World} {L : List (List Int)} {j : Nat} (h : ColI g N m w L j) (e : Below w.heap.size w w') : ColI g N m w' L j := by
  obtain ⟨B, h1, h2⟩ := h
  refine ⟨B, World.rowIs.of_block h1 (e.block g (World.rowIs.lt h1)), fun i hi => ?_⟩
  obtain ⟨e1, e2⟩ := h2 i hi
  exact ⟨e1, e2.below e e2.lt⟩
theorem ColI.put {g N m x : Nat} {w : World} {L : List (List Int)} {j : Nat} (h : ColI g N m w L j) (hx : g < x) (hA : ArrI w x 3 m (zat (pgc L j))) : ColI g N m (w.setCell ⟨g, j, none⟩ (.slice (some ⟨x, 0, none⟩) m m)) L (j + 1) := by
  obtain ⟨B, h1, h2⟩ := h
  refine ⟨fun i => if i = j then x else B i, World.rowIs.congr (World.rowIs.set h1 j _) (fun i _ => ?_), fun i hi => ?_⟩
  · by_cases e : i = j
    · rw [if_pos e, if_pos (by omega)]
      simp [e]
    · rw [if_neg e]
      by_cases hij : i < j
      · rw [if_pos hij, if_pos (by omega)]
        simp [e]
      · rw [if_neg hij, if_neg (by omega)]
  · have hne : ∀ y, g < y → y ≠ g := fun y hy => by omega
    by_cases e : i = j
    · subst e
      simp only [if_true]
      exact ⟨hx, hA.block (Below.heap_setCell _ _ _ _ (by show x ≠ g; omega))⟩
    · simp only [if_neg e]
      obtain ⟨e1, e2⟩ := h2 i (by omega)
      exact ⟨e1, e2.block (Below.heap_setCell _ _ _ _ (by show B i ≠ g; omega))⟩
end Go.Proofs.YtlhjifpomchnfaaGreatDoor
