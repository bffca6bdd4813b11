/- slices.Chunk over a list whose length is a multiple of four, by its own text: what comes round by round. -/
import Derived.RangeFuncNested
import Derived.RangeFuncBound
import Derived.RangeFuncCalls
import Derived.RangeFuncLeaves
import Derived.RangeFuncBox
import Derived.RangeFuncWrites
import Derived.Shelf.Abstract
import Derived.WalkKit
import Derived.OwnWalkIn
import Derived.TacticsInMore
import Derived.LoopNIn
import Derived.LoopIn
import Derived.RegionIn
import Derived.BigRegionIn
import Derived.Test.YtcajofdmadpmoaaFld
namespace Go.Proofs.Ytcajofdmadpmoaa
open Go.RowKit Go.Shelf

attribute [local go_sem] Oper.semAt_some

/-- what a round keeps: the boxes of the list and of its step -/
def KeepsC (Bs : Nat) (A B : World) : Prop := B.cell? ⟨Bs, 0, none⟩ = A.cell? ⟨Bs, 0, none⟩ ∧ B.cell? ⟨Bs + 1, 0, none⟩ = A.cell? ⟨Bs + 1, 0, none⟩
theorem KeepsC.refl (Bs : Nat) (A : World) : KeepsC Bs A A := ⟨rfl, rfl⟩
theorem KeepsC.trans {Bs : Nat} {A B C : World} (h : KeepsC Bs A B) (k : KeepsC Bs B C) : KeepsC Bs A C := ⟨k.1.trans h.1, k.2.trans h.2⟩

end Go.Proofs.Ytcajofdmadpmoaa
