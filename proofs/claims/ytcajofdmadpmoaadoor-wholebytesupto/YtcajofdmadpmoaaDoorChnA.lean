/- attestref3, the chains: Step, Begin, Draw, Place. -/
import Derived.Test.YtcajofdmadpmoaaDoorRefs
import Derived.Test.YtcajofdmadpmoaaDoorSpgH
namespace Go.Proofs.YtcajofdmadpmoaaDoor
open Go.RowKit

/-- a list that lies in a block of numbers -/
def NumL (w : World) (a : Option Addr) (c : Nat) (l : List Int) : Prop := Lst w.heap.size w a c l ∧ (0 < l.length → ∃ g o cs f, a = some ⟨g, o, none⟩ ∧ w.heap[g]? = some (.cells cs 3 f))
theorem NumL.blocks {w w' : World} {a : Option Addr} {c : Nat} {l : List Int} (h : NumL w a c l) (hs : w.heap.size ≤ w'.heap.size) (e : ∀ (g : Nat) (cs : Array Value) (f : Nat × Nat), w.heap[g]? = some (.cells cs 3 f) → w'.heap[g]? = w.heap[g]?) : NumL w' a c l := by
  obtain ⟨hl, hn⟩ := h
  refine ⟨⟨fun k hk => ?_, hl.room, hl.nil⟩, fun h0 => ?_⟩
  · obtain ⟨b, o, rfl, h2, h3⟩ := hl.row k hk
    obtain ⟨g', o', cs, f, e1, hb⟩ := hn (by omega)
    cases e1
    exact ⟨b, o, rfl, by omega, (World.cell?_of_block (w := w) (a := ⟨b, o + k, none⟩) (e b cs f hb)).trans h3⟩
  · obtain ⟨g, o, cs, f, rfl, hb⟩ := hn h0
    exact ⟨g, o, cs, f, rfl, (e g cs f hb).trans hb⟩
theorem NumL.below {w w' : World} {a : Option Addr} {c : Nat} {l : List Int} (h : NumL w a c l) (e : Below w.heap.size w w') : NumL w' a c l :=
  h.blocks e.size (fun g _ _ hg => e.block g (Array.getElem?_eq_some_iff.1 hg).1)

end Go.Proofs.YtcajofdmadpmoaaDoor
