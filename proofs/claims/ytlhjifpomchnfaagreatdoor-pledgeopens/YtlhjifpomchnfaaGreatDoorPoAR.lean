/- attestref3, the chains: Step, Begin, Draw, Place. attestref5: Fault, pairs, modulo, places. -/
import Derived.Test.YtlhjifpomchnfaaGreatDoorRefs
import Derived.Test.YtlhjifpomchnfaaGreatDoorPoAA
import Derived.Test.YtlhjifpomchnfaaGreatDoorPoAQ
import Derived.Test.YtlhjifpomchnfaaGreatDoorTres
namespace Go.Proofs.YtlhjifpomchnfaaGreatDoor
open Go.RowKit

/-- a list that lies in a block of numbers -/
def NumL (w : World) (a : Option Addr) (c : Nat) (l : List Int) : Prop := Lst w.heap.size w a c l ∧ (0 < l.length → ∃ g o cs f, a = some ⟨g, o, none⟩ ∧ w.heap[g]? = some (.cells cs 3 f))
theorem NumL.blocks {w w' : World} {a : Option Addr} {c : Nat} {l : List Int} (h : NumL w a c l) (hs : w.heap.size ≤ w'.heap.size) (e : ∀ (g : Nat) (cs : Array Value) (f : Nat × Nat), w.heap[g]? = some (.cells cs 3 f) → w'.heap[g]? = w.heap[g]?) : NumL w' a c l := by
  obtain ⟨hl, hn⟩ := h
  refine ⟨⟨fun k hk => ?_, hl.room, hl.nil⟩, fun h0 => ?_⟩
  · obtain ⟨b, o, rfl, h2, h3⟩ := hl.row k hk
    obtain ⟨g', o', cs, f, e1, hb⟩ := hn (by omega)
    cases e1
    exact ⟨b, o, rfl, by omega, (World.cell?_of_block (w := w) (a := ⟨b, o + k, none⟩) (e b cs f hb)).trans h3⟩
  · obtain ⟨g, o, cs, f, rfl, hb⟩ := hn h0
    exact ⟨g, o, cs, f, rfl, (e g cs f hb).trans hb⟩
theorem NumL.below {w w' : World} {a : Option Addr} {c : Nat} {l : List Int} (h : NumL w a c l) (e : Below w.heap.size w w') : NumL w' a c l :=
  h.blocks e.size (fun g _ _ hg => e.block g (Array.getElem?_eq_some_iff.1 hg).1)

/-- a chain of the reference in memory -/
def RCh (q : Nat) (w : World) (r : Nat) (D : List Int) : Prop := ∃ a c, w.heap[r]? = some (.cells #[.int .i64 q, .slice a D.length c] 52 (0, 0)) ∧ NumL w a c D
theorem RCh.lt {q : Nat} {w : World} {r : Nat} {D : List Int} (h : RCh q w r D) : r < w.heap.size := by obtain ⟨_, _, h, _⟩ := h; exact (Array.getElem?_eq_some_iff.1 h).1
theorem RCh.blocks {q : Nat} {w w' : World} {r : Nat} {D : List Int} (h : RCh q w r D) (hs : w.heap.size ≤ w'.heap.size) (hr : w'.heap[r]? = w.heap[r]?) (e : ∀ (g : Nat) (cs : Array Value) (f : Nat × Nat), w.heap[g]? = some (.cells cs 3 f) → w'.heap[g]? = w.heap[g]?) : RCh q w' r D := by
  obtain ⟨a, c, h1, h2⟩ := h
  exact ⟨a, c, hr.trans h1, h2.blocks hs e⟩
theorem RCh.below {q : Nat} {w w' : World} {r : Nat} {D : List Int} (h : RCh q w r D) (e : Below w.heap.size w w') : RCh q w' r D :=
  h.blocks e.size (e.block r h.lt) (fun g _ _ hg => e.block g (Array.getElem?_eq_some_iff.1 hg).1)
/-- another chain's step leaves it -/
theorem RCh.other {q : Nat} {w w' : World} {r s : Nat} {D : List Int} (h : RCh q w r D) (e : w.grownBy w' (some s)) (hne : r ≠ s) (hs : ∀ (cs : Array Value) (f : Nat × Nat), w.heap[s]? ≠ some (.cells cs 3 f)) : RCh q w' r D :=
  h.blocks e.size (gb_blk e h.lt hne) (fun g cs f hg => gb_blk e (Array.getElem?_eq_some_iff.1 hg).1 (fun he => hs cs f (by rw [← he]; exact hg)))

/-- a chain of the reference whose digest lies in a block from lo on -/
def RCn (q : Nat) (w : World) (r : Nat) (D : List Int) (lo : Nat) : Prop := ∃ g c, w.heap[r]? = some (.cells #[.int .i64 q, .slice (some ⟨g, 0, none⟩) D.length c] 52 (0, 0)) ∧ NumL w (some ⟨g, 0, none⟩) c D ∧ lo ≤ g
theorem RCn.own {q : Nat} {w w' : World} {r : Nat} {D : List Int} {lo : Nat} {own : Option Nat} (h : RCn q w r D lo) (e : w.grownBy w' own) (hr : some r ≠ own) (ho : ∀ k, own = some k → k < lo) : RCh q w' r D := by
  obtain ⟨g, c, h1, h2, h3⟩ := h
  have hrl : r < w.heap.size := (Array.getElem?_eq_some_iff.1 h1).1
  refine ⟨some ⟨g, 0, none⟩, c, (e.block r hrl hr).trans h1, ⟨fun k hk => ?_, h2.1.room, h2.1.nil⟩, fun h0 => ?_⟩
  · obtain ⟨b, o, e1, h4, h5⟩ := h2.1.row k hk
    cases e1
    refine ⟨g, 0, rfl, by have := e.size; omega, ?_⟩
    exact (World.cell?_of_block (w := w) (a := ⟨g, 0 + k, none⟩) (e.block g h4 (fun e2 => by have := ho g e2.symm; omega))).trans h5
  · obtain ⟨b, o, cs, f, e1, h4⟩ := h2.2 h0
    cases e1
    exact ⟨g, 0, cs, f, rfl, (e.block g (Array.getElem?_eq_some_iff.1 h4).1 (fun e2 => by have := ho g e2.symm; omega)).trans h4⟩

theorem RCh.not {q : Nat} {w : World} {r : Nat} {D : List Int} (h : RCh q w r D) : ∀ (cs : Array Value) (f : Nat × Nat), w.heap[r]? ≠ some (.cells cs 3 f) := fun cs f e => by
  obtain ⟨_, _, h, _⟩ := h
  rw [h] at e
  simp at e

end Go.Proofs.YtlhjifpomchnfaaGreatDoor

namespace Go.Proofs.YtlhjifpomchnfaaGreatDoor
open Go.RowKit

/-! ## each once, ascending -/
/-! ## Fault -/
/-! ## pairs -/
/-! ## modulo -/
end Go.Proofs.YtlhjifpomchnfaaGreatDoor
