/- attestsame.Sponge, attestlaw3's plain and lives. slices.Chunk over a list whose length is a multiple of four, by its own text: what comes round by round. A region that draws its order inside a round of a loop over a function: an operation that yields its value in every world of a kind may be taken first. Own law, after the shape of the library's law for a region outside a round. Package sponge: Hash. -/
import Derived.Test.YtmmgkdcojkmlcaaGreatDoorSpgs
import Derived.Test.YtmmgkdcojkmlcaaGreatDoorDoms
import Derived.RangeFuncNested
import Derived.RangeFuncBound
import Derived.RangeFuncCalls
import Derived.RangeFuncLeaves
import Derived.RangeFuncBox
import Derived.RangeFuncWrites
import Derived.Shelf.Abstract
import Derived.WalkKit
import Derived.OwnWalkIn
import Derived.TacticsInMore
import Derived.LoopNIn
import Derived.LoopIn
import Derived.RegionIn
import Derived.BigRegionIn
import Derived.Test.YtmmgkdcojkmlcaaGreatDoorFld
import Derived.OrdersIn
import Derived.OrdersHeld
namespace Go.Proofs.YtmmgkdcojkmlcaaGreatDoor
open Go.RowKit

end Go.Proofs.YtmmgkdcojkmlcaaGreatDoor

namespace Go.Proofs.YtmmgkdcojkmlcaaGreatDoor
open Go.RowKit Go.Shelf

attribute [local go_sem] Oper.semAt_some

/-- what a round keeps: the boxes of the list and of its step -/
def KeepsC (Bs : Nat) (A B : World) : Prop := B.cell? ⟨Bs, 0, none⟩ = A.cell? ⟨Bs, 0, none⟩ ∧ B.cell? ⟨Bs + 1, 0, none⟩ = A.cell? ⟨Bs + 1, 0, none⟩
theorem KeepsC.refl (Bs : Nat) (A : World) : KeepsC Bs A A := ⟨rfl, rfl⟩
theorem KeepsC.trans {Bs : Nat} {A B C : World} (h : KeepsC Bs A B) (k : KeepsC Bs B C) : KeepsC Bs A C := ⟨k.1.trans h.1, k.2.trans h.2⟩

end Go.Proofs.YtmmgkdcojkmlcaaGreatDoor

namespace Go.Proofs.YtmmgkdcojkmlcaaGreatDoor
open Go

section
variable {F : Fence} {n : Nat} {P : Program} {ops : Array Oper} {Q : Exit → Act → World → Prop} {md : Region.Mode} {S : World → Prop}

/-- no operation puts a call off -/
def NoDefer (ops : Array Oper) : Prop := ∀ (j : Nat) (o : Oper), ops[j]? = some o → ∀ c, o.op ≠ .defer c

def YieldsR (P : Program) (ops : Array Oper) (S : World → Prop) (o : Oper) (v : Value) (a : Act) : Prop := YieldsIf P ops S o v a ∧ ∀ w, o.about P w a.eval = none

theorem YieldsR.step {i : Nat} {o : Oper} {v : Value} {a : Act} (hnd : NoDefer ops) (hi : ops[i]? = some o) (hy : YieldsR P ops S o v a)
    {K : Act → World → Prop} {w : World} (hS : S w) (h : K (a.put o.dst v) w) : wpOpIn F n P ops Q i K a w := by
  unfold Go.wpOpIn
  simp only [hi]
  have hab : ∀ f, o.about P w a.eval = some f → F.fn f := fun f hf => by rw [hy.2 w] at hf; cases hf
  rcases hy.1 with ⟨hw, hv⟩ | ⟨hw, rfl⟩
  · simp only [hw, if_true, Oper.wpIn, Oper.semAt_eq _ _ _ (hnd i o hi), hv w hS, Oper.uponIn]; exact ⟨hab, h⟩
  · simp only [hw, Bool.false_eq_true, if_false]; exact ⟨hab, h⟩

theorem YieldsR.same {o : Oper} {v : Value} {a a' : Act} (hy : YieldsR P ops S o v a) (he : execOp a'.eval o = execOp a.eval o)
    (hw : Region.wanted o (yielded ops a'.tmps) = Region.wanted o (yielded ops a.tmps)) (hb : ∀ w, o.about P w a'.eval = o.about P w a.eval) : YieldsR P ops S o v a' :=
  ⟨hy.1.of_same he hw, fun w => by rw [hb w]; exact hy.2 w⟩

end
end Go.Proofs.YtmmgkdcojkmlcaaGreatDoor

namespace Go.Proofs.YtmmgkdcojkmlcaaGreatDoor
open Go.RowKit Go.Shelf

attribute [local go_sem] Oper.semAt_some

/-! ## one block alone has turned of what was there -/
theorem gb_blk {g k : Nat} {A B : World} (h : A.grownBy B (some g)) (hk : k < A.heap.size) (hne : k ≠ g) : B.heap[k]? = A.heap[k]? := h.block k hk (by intro e; injection e with e; exact hne e)
end Go.Proofs.YtmmgkdcojkmlcaaGreatDoor
