/- attestref12: draw, Fits. attestref12: Open. -/
import Derived.Test.YtlhjifpomchnfaaGreatDoorPoAU
import Derived.Test.YtlhjifpomchnfaaGreatDoorPoAO
import Derived.Test.YtlhjifpomchnfaaGreatDoorTres
import Derived.Test.YtlhjifpomchnfaaGreatDoorPoAW
import Derived.Test.YtlhjifpomchnfaaGreatDoorPoAX
namespace Go.Proofs.YtlhjifpomchnfaaGreatDoor
open Go.RowKit

end Go.Proofs.YtlhjifpomchnfaaGreatDoor

namespace Go.Proofs.YtlhjifpomchnfaaGreatDoor
open Go.RowKit

/-- what Open knows so far: the chain, rows, columns, the pledge that it fills, lists -/
structure OpI (q rc O : Nat) (W1 W : World) (D : List Int) (rv cv : Value) (M : Nat) (vals : List Value) (C : List (List Int)) (F : Nat → Value) (Ls : List (Value × List Int)) : Prop where
  g : W1.grownBy W (some rc)
  ch : RCh q W rc D
  rw : W.ownsRow W1.heap.size 22 1 rv M vals
  cl : OwnR W1.heap.size W cv C
  o : W.rowIs O 33 6 F
  al : AlS F
  ls : ∀ p, p ∈ Ls → SlR W p.2 p.1
theorem OpI.below {q rc O M : Nat} {W1 W W' : World} {D : List Int} {rv cv : Value} {vals : List Value} {C : List (List Int)} {F : Nat → Value} {Ls : List (Value × List Int)} (h : OpI q rc O W1 W D rv cv M vals C F Ls) (e : Below W.heap.size W W') : OpI q rc O W1 W' D rv cv M vals C F Ls :=
  ⟨gb_trans h.g (gb_below e), h.ch.below e, own_step h.rw e, h.cl.keep e, World.rowIs.of_block h.o (e.block O (World.rowIs.lt h.o)), h.al, fun p hp => (h.ls p hp).keep e⟩
theorem OpI.step {q rc O M : Nat} {W1 W W' : World} {D D' : List Int} {rv cv : Value} {vals : List Value} {C : List (List Int)} {F : Nat → Value} {Ls : List (Value × List Int)} (h : OpI q rc O W1 W D rv cv M vals C F Ls) (e : W.grownBy W' (some rc)) (hc : RCh q W' rc D') (hO : O ≠ rc) : OpI q rc O W1 W' D' rv cv M vals C F Ls :=
  ⟨gb_trans h.g e, hc, own_rstep h.rw h.ch e, h.cl.rstep h.ch e, World.rowIs.of_block h.o (gb_blk e (World.rowIs.lt h.o) hO), h.al, fun p hp => (h.ls p hp).rstep h.ch e⟩
theorem OpI.set {q rc O M i : Nat} {W1 W : World} {D : List Int} {rv cv v : Value} {vals : List Value} {C : List (List Int)} {F F' : Nat → Value} {Ls : List (Value × List Int)} (h : OpI q rc O W1 W D rv cv M vals C F Ls) (hO1 : W1.heap.size ≤ O) (hO : O ≠ rc) (ho : (W.setCell ⟨O, i, none⟩ v).rowIs O 33 6 F') (ha : AlS F') : OpI q rc O W1 (W.setCell ⟨O, i, none⟩ v) D rv cv M vals C F' Ls := by
  have hgb : W.grownBy (W.setCell ⟨O, i, none⟩ v) (some O) := gb_setCell (gb_refl _ _) i v
  have hne : ∀ (cs : Array Value) (f : Nat × Nat), W.heap[O]? ≠ some (.cells cs 3 f) := fun cs f e => by
    obtain ⟨c, h1, _, _⟩ := h.o
    rw [e] at h1
    simp at h1
  exact ⟨⟨h.g.os, h.g.tape, h.g.output, by have := h.g.size; simpa [World.setCell] using this, fun k hk hkr => (Below.heap_setCell _ _ _ _ (by show k ≠ O; omega)).trans (h.g.block k hk hkr)⟩, h.ch.other hgb (fun e => hO e.symm) hne, own_setP h.rw h.o, h.cl.setP h.o h.al, ho, ha, fun p hp => (h.ls p hp).setP h.o h.al⟩
theorem OpI.add {q rc O M : Nat} {W1 W : World} {D : List Int} {rv cv : Value} {vals : List Value} {C : List (List Int)} {F : Nat → Value} {Ls : List (Value × List Int)} (h : OpI q rc O W1 W D rv cv M vals C F Ls) {u : Value} {l : List Int} (hu : SlR W l u) : OpI q rc O W1 W D rv cv M vals C F ((u, l) :: Ls) :=
  ⟨h.g, h.ch, h.rw, h.cl, h.o, h.al, fun p hp => by
    rcases List.mem_cons.1 hp with rfl | hp
    · exact hu
    · exact h.ls p hp⟩
/-- what lies when the results are written -/
structure OpE (q rc R : Nat) (w W : World) (D : List Int) (F : Nat → Value) (Ls : List (Value × List Int)) (Os : List (Value × List (List Int))) : Prop where
  g : w.grownBy W (some rc)
  ch : RCh q W rc D
  o : W.rowIs R 33 6 F
  al : AlS F
  ls : ∀ p, p ∈ Ls → SlR W p.2 p.1
  os : ∀ p, p ∈ Os → OwnR 0 W p.1 p.2
theorem OpE.set {q rc R i : Nat} {w W : World} {D : List Int} {F F' : Nat → Value} {v : Value} {Ls : List (Value × List Int)} {Os : List (Value × List (List Int))} (h : OpE q rc R w W D F Ls Os) (hR1 : w.heap.size ≤ R) (hR : R ≠ rc) (ho : (W.setCell ⟨R, i, none⟩ v).rowIs R 33 6 F') (ha : AlS F') : OpE q rc R w (W.setCell ⟨R, i, none⟩ v) D F' Ls Os := by
  have hgb : W.grownBy (W.setCell ⟨R, i, none⟩ v) (some R) := gb_setCell (gb_refl _ _) i v
  have hne : ∀ (cs : Array Value) (f : Nat × Nat), W.heap[R]? ≠ some (.cells cs 3 f) := fun cs f e => by
    obtain ⟨c, h1, _, _⟩ := h.o
    rw [e] at h1
    simp at h1
  exact ⟨⟨h.g.os, h.g.tape, h.g.output, by have := h.g.size; simpa [World.setCell] using this, fun k hk hkr => (Below.heap_setCell _ _ _ _ (by show k ≠ R; omega)).trans (h.g.block k hk hkr)⟩, h.ch.other hgb (fun e => hR e.symm) hne, ho, ha, fun p hp => (h.ls p hp).setP h.o h.al, fun p hp => (h.os p hp).setP h.o h.al⟩

end Go.Proofs.YtlhjifpomchnfaaGreatDoor
