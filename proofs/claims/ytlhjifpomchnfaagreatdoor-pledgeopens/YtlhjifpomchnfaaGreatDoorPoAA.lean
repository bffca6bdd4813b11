/- attestsame.Sponge, attestlaw3's plain and lives. A region that draws its order inside a round of a loop over a function: an operation that yields its value in every world of a kind may be taken first. Own law, after the shape of the library's law for a region outside a round. Package sponge: Hash. slices.Values over a list of numbers, by its own text: what comes round by round. -/
import Derived.Test.YtlhjifpomchnfaaGreatDoorSpgs
import Derived.Test.YtlhjifpomchnfaaGreatDoorDoms
import Derived.OrdersIn
import Derived.OrdersHeld
import Derived.RangeFuncCalls
import Derived.Test.YtlhjifpomchnfaaGreatDoorChk
import Derived.RangeFuncNested
import Derived.RangeFuncBound
import Derived.RangeFuncLeaves
import Derived.RangeFuncBox
import Derived.RangeFuncWrites
import Derived.Shelf.Abstract
import Derived.WalkKit
import Derived.OwnWalkIn
import Derived.TacticsInMore
import Derived.LoopNIn
import Derived.LoopIn
import Derived.RegionIn
import Derived.BigRegionIn
namespace Go.Proofs.YtlhjifpomchnfaaGreatDoor
open Go.RowKit

end Go.Proofs.YtlhjifpomchnfaaGreatDoor

namespace Go.Proofs.YtlhjifpomchnfaaGreatDoor
open Go

section
variable {F : Fence} {n : Nat} {P : Program} {ops : Array Oper} {Q : Exit → Act → World → Prop} {md : Region.Mode} {S : World → Prop}

/-- no operation puts a call off -/
def NoDefer (ops : Array Oper) : Prop := ∀ (j : Nat) (o : Oper), ops[j]? = some o → ∀ c, o.op ≠ .defer c

def YieldsR (P : Program) (ops : Array Oper) (S : World → Prop) (o : Oper) (v : Value) (a : Act) : Prop := YieldsIf P ops S o v a ∧ ∀ w, o.about P w a.eval = none

theorem YieldsR.step {i : Nat} {o : Oper} {v : Value} {a : Act} (hnd : NoDefer ops) (hi : ops[i]? = some o) (hy : YieldsR P ops S o v a)
    {K : Act → World → Prop} {w : World} (hS : S w) (h : K (a.put o.dst v) w) : wpOpIn F n P ops Q i K a w := by
  unfold Go.wpOpIn
  simp only [hi]
  have hab : ∀ f, o.about P w a.eval = some f → F.fn f := fun f hf => by rw [hy.2 w] at hf; cases hf
  rcases hy.1 with ⟨hw, hv⟩ | ⟨hw, rfl⟩
  · simp only [hw, if_true, Oper.wpIn, Oper.semAt_eq _ _ _ (hnd i o hi), hv w hS, Oper.uponIn]; exact ⟨hab, h⟩
  · simp only [hw, Bool.false_eq_true, if_false]; exact ⟨hab, h⟩

theorem YieldsR.same {o : Oper} {v : Value} {a a' : Act} (hy : YieldsR P ops S o v a) (he : execOp a'.eval o = execOp a.eval o)
    (hw : Region.wanted o (yielded ops a'.tmps) = Region.wanted o (yielded ops a.tmps)) (hb : ∀ w, o.about P w a'.eval = o.about P w a.eval) : YieldsR P ops S o v a' :=
  ⟨hy.1.of_same he hw, fun w => by rw [hb w]; exact hy.2 w⟩

end
end Go.Proofs.YtlhjifpomchnfaaGreatDoor

namespace Go.Proofs.YtlhjifpomchnfaaGreatDoor
open Go.RowKit Go.Shelf

attribute [local go_sem] Oper.semAt_some

/-! ## one block alone has turned of what was there -/
theorem gb_refl (g : Nat) (W : World) : W.grownBy W (some g) := ⟨rfl, rfl, rfl, Nat.le_refl _, fun _ _ _ => rfl⟩
theorem gb_trans {g : Nat} {A B C : World} (h : A.grownBy B (some g)) (k : B.grownBy C (some g)) : A.grownBy C (some g) :=
  ⟨k.os.trans h.os, k.tape.trans h.tape, k.output.trans h.output, Nat.le_trans h.size k.size, fun i hi hg => (k.block i (Nat.lt_of_lt_of_le hi h.size) hg).trans (h.block i hi hg)⟩
theorem gb_below {g : Nat} {A B : World} (h : Below A.heap.size A B) : A.grownBy B (some g) := ⟨h.os, h.tape, h.output, h.size, fun i hi _ => h.block i hi⟩
theorem gb_setCell {g : Nat} {A B : World} (h : A.grownBy B (some g)) (i : Nat) (v : Value) : A.grownBy (B.setCell ⟨g, i, none⟩ v) (some g) :=
  gb_trans h ⟨rfl, rfl, rfl, by simp [World.setCell], fun k _ hk => Below.heap_setCell _ _ _ _ (by intro e; exact hk (by rw [show k = g from e]))⟩
theorem gb_blk {g k : Nat} {A B : World} (h : A.grownBy B (some g)) (hk : k < A.heap.size) (hne : k ≠ g) : B.heap[k]? = A.heap[k]? := h.block k hk (by intro e; injection e with e; exact hne e)
/-- the state of a digest on its way -/
def HshI (q n : Nat) (P : Nat → Int) (g : Nat) (W0 : World) {m : Nat} (pre : List (Fin m)) (W : World) : Prop :=
  (∃ G : Nat → Int, ArrI W g 123 8 G ∧ (∀ j, j < 8 → 0 ≤ G j ∧ G j < q) ∧ ∀ k, CameC pre k → ∀ j, j < 8 → G j = hst q n P k j) ∧ W0.grownBy W (some g)
theorem HshI.own {q n g m : Nat} {P : Nat → Int} {W0 : World} (hg : g < W0.heap.size) : OwnFrom W0.heap.size (fun (pre : List (Fin m)) W => HshI q n P g W0 pre W) := by
  rintro s A B row ⟨⟨G, h1, h2, h3⟩, h4⟩ hgr hrow
  have hne : ∀ k, k < W0.heap.size → some k ≠ row := fun k hk e => by have := (hrow k e.symm).1; omega
  refine ⟨⟨G, h1.block (hgr.block g h1.lt (hne g hg)), h2, h3⟩, hgr.os.trans h4.os, hgr.tape.trans h4.tape, hgr.output.trans h4.output, Nat.le_trans h4.size hgr.size, fun k hk hkg => ?_⟩
  exact (hgr.block k (Nat.lt_of_lt_of_le hk h4.size) (hne k hk)).trans (h4.block k hk hkg)

end Go.Proofs.YtlhjifpomchnfaaGreatDoor

namespace Go.Proofs.YtlhjifpomchnfaaGreatDoor
open Go.RowKit Go.Shelf

attribute [local go_sem] Oper.semAt_some

end Go.Proofs.YtlhjifpomchnfaaGreatDoor
