/- Package pledge: opened. -/
import Derived.Test.YtlhjifpomchnfaaGreatDoorPoAW
import Derived.Test.YtlhjifpomchnfaaGreatDoorPoAX
import Derived.Test.YtlhjifpomchnfaaGreatDoorPoAY
namespace Go.Proofs.YtlhjifpomchnfaaGreatDoor
open Go.RowKit

/-- what opened knows so far: the chain, rows, columns, the pledge that it fills, lists -/
structure OpP (N0 q n c O G : Nat) (X : Obj) (W1 W : World) (D : List Int) (rv cv : Value) (M : Nat) (vals : List Value) (C : List (List Int)) (F : Nat → Value) (Ls : List (Value × List Int)) : Prop where
  g : W1.grownBy W (some c)
  ch : PCh N0 q n W c D
  bx : W.heap[G]? = some X
  rw : W.ownsRow W1.heap.size 22 1 rv M vals
  cl : OwnR W1.heap.size W cv C
  o : W.rowIs O 33 6 F
  al : AlS F
  ls : ∀ p, p ∈ Ls → SlR W p.2 p.1
theorem OpP.below {N0 q n c O G M : Nat} {X : Obj} {W1 W W' : World} {D : List Int} {rv cv : Value} {vals : List Value} {C : List (List Int)} {F : Nat → Value} {Ls : List (Value × List Int)} (h : OpP N0 q n c O G X W1 W D rv cv M vals C F Ls) (e : Below W.heap.size W W') : OpP N0 q n c O G X W1 W' D rv cv M vals C F Ls :=
  ⟨gb_trans h.g (gb_below e), h.ch.below e, (e.block G (Array.getElem?_eq_some_iff.1 h.bx).1).trans h.bx, own_step h.rw e, h.cl.keep e, World.rowIs.of_block h.o (e.block O (World.rowIs.lt h.o)), h.al, fun p hp => (h.ls p hp).keep e⟩
theorem OpP.step {N0 q n c O G M : Nat} {X : Obj} {W1 W W' : World} {D D' : List Int} {rv cv : Value} {vals : List Value} {C : List (List Int)} {F : Nat → Value} {Ls : List (Value × List Int)} (h : OpP N0 q n c O G X W1 W D rv cv M vals C F Ls) (e : W.grownBy W' (some c)) (hc : PCh N0 q n W' c D') (hO : O ≠ c) (hG : G ≠ c) : OpP N0 q n c O G X W1 W' D' rv cv M vals C F Ls :=
  ⟨gb_trans h.g e, hc, (gb_blk e (Array.getElem?_eq_some_iff.1 h.bx).1 hG).trans h.bx, own_pstep h.rw h.ch e, h.cl.pstep h.ch e, World.rowIs.of_block h.o (gb_blk e (World.rowIs.lt h.o) hO), h.al, fun p hp => (h.ls p hp).pstep h.ch e⟩
theorem OpP.set {N0 q n c O G M i : Nat} {X : Obj} {W1 W : World} {D : List Int} {rv cv v : Value} {vals : List Value} {C : List (List Int)} {F F' : Nat → Value} {Ls : List (Value × List Int)} (h : OpP N0 q n c O G X W1 W D rv cv M vals C F Ls) (hW : W1.heap.size ≤ O) (hN : N0 ≤ O) (hG : G ≠ O) (ho : (W.setCell ⟨O, i, none⟩ v).rowIs O 33 6 F') (ha : AlS F') : OpP N0 q n c O G X W1 (W.setCell ⟨O, i, none⟩ v) D rv cv M vals C F' Ls :=
  ⟨⟨h.g.os, h.g.tape, h.g.output, by have := h.g.size; simpa [World.setCell] using this, fun k hk hkr => (Below.heap_setCell _ _ _ _ (by show k ≠ O; omega)).trans (h.g.block k hk hkr)⟩, h.ch.setP h.o hN, (Below.heap_setCell _ _ _ _ (by show G ≠ O; exact hG)).trans h.bx, own_setP h.rw h.o, h.cl.setP h.o h.al, ho, ha, fun p hp => (h.ls p hp).setP h.o h.al⟩
theorem OpP.add {N0 q n c O G M : Nat} {X : Obj} {W1 W : World} {D : List Int} {rv cv : Value} {vals : List Value} {C : List (List Int)} {F : Nat → Value} {Ls : List (Value × List Int)} (h : OpP N0 q n c O G X W1 W D rv cv M vals C F Ls) {u : Value} {l : List Int} (hu : SlR W l u) : OpP N0 q n c O G X W1 W D rv cv M vals C F ((u, l) :: Ls) :=
  ⟨h.g, h.ch, h.bx, h.rw, h.cl, h.o, h.al, fun p hp => by
    rcases List.mem_cons.1 hp with rfl | hp
    · exact hu
    · exact h.ls p hp⟩

end Go.Proofs.YtlhjifpomchnfaaGreatDoor
