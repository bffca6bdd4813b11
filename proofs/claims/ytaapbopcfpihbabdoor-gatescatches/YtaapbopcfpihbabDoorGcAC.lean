/- attestref1.Unlike: whether all of a list are unlike, as elements. areUnlike: sorted and compacted as long as before if and only if no two are the same element. slices.Backward over a list of numbers, by its own text: what comes round by round, from the end of the list on. -/
import Derived.Test.YtaapbopcfpihbabDoorPls
import Derived.Deep.QuietTactic
import Derived.BigQuiet
import Derived.Test.YtaapbopcfpihbabDoorGcAB
import Derived.Sort.OwnSortedInts
import Derived.RangeFuncNested
import Derived.RangeFuncBound
import Derived.RangeFuncCalls
import Derived.RangeFuncLeaves
import Derived.RangeFuncBox
import Derived.RangeFuncWrites
import Derived.Shelf.Abstract
import Derived.WalkKit
import Derived.OwnWalkIn
import Derived.TacticsInMore
import Derived.LoopNIn
import Derived.LoopIn
import Derived.Test.YtaapbopcfpihbabDoorFld
namespace Go.Proofs.YtaapbopcfpihbabDoor
open Go.RowKit

end Go.Proofs.YtaapbopcfpihbabDoor

namespace Go.Proofs.YtaapbopcfpihbabDoor
open Go.RowKit Go.Sort

end Go.Proofs.YtaapbopcfpihbabDoor

namespace Go.Proofs.YtaapbopcfpihbabDoor
open Go.RowKit Go.Shelf

attribute [local go_sem] Oper.semAt_some

/-- what has come when k rounds are over -/
def upto {α : Type} (f : Nat → α) (k : Nat) : List α := (List.range k).map f
/-- what a round keeps: all below n0, and the box of the list -/
def KeepsB (n0 Bs : Nat) (A B : World) : Prop := Below n0 A B ∧ B.cell? ⟨Bs, 0, none⟩ = A.cell? ⟨Bs, 0, none⟩
theorem KeepsB.refl (n0 Bs : Nat) (A : World) : KeepsB n0 Bs A A := ⟨Below.refl _ _, rfl⟩
theorem KeepsB.trans {n0 Bs : Nat} {A B C : World} (h : KeepsB n0 Bs A B) (k : KeepsB n0 Bs B C) : KeepsB n0 Bs A C := ⟨h.1.trans k.1, k.2.trans h.2⟩

end Go.Proofs.YtaapbopcfpihbabDoor
