/- Package chain: what it needs of slices, become, New. Package chain: New, Take, Draw, Draws, Place, Digest, Fork. -/
import Derived.Test.YtlhjifpomchnfaaGreatDoorPoAS
import Derived.Test.YtlhjifpomchnfaaGreatDoorSpgs
import Derived.Test.YtlhjifpomchnfaaGreatDoorFld
import Derived.Lib.AppendZerosOnto
import Derived.Laws.CopyRow
import Derived.Deep.RegionHeld3
namespace Go.Proofs.YtlhjifpomchnfaaGreatDoor
open Go.RowKit

/-- a chain of the program in memory -/
def PCh (N0 q n : Nat) (w : World) (c : Nat) (D : List Int) : Prop := ∃ s b d, SpgOk q n d ∧ SpgAt w s b q n d ∧ s < N0 ∧ b < N0 ∧ N0 ≤ c ∧
  w.heap[c]? = some (.cells #[.pointer (some ⟨s, 0, none⟩), .int .i64 (zat D 0), .int .i64 (zat D 1), .int .i64 (zat D 2), .int .i64 (zat D 3)] 84 (0, 0))
theorem PCh.blocks {N0 q n : Nat} {w w' : World} {c : Nat} {D : List Int} (h : PCh N0 q n w c D) (hc : w'.heap[c]? = w.heap[c]?) (e : ∀ b, b < N0 → w'.heap[b]? = w.heap[b]?) : PCh N0 q n w' c D := by
  obtain ⟨s, b, d, h1, h2, h3, h4, h5, h6⟩ := h
  exact ⟨s, b, d, h1, h2.blocks (e s h3) (e b h4), h3, h4, h5, hc.trans h6⟩
theorem PCh.lt {N0 q n : Nat} {w : World} {c : Nat} {D : List Int} (h : PCh N0 q n w c D) : c < w.heap.size := by
  obtain ⟨s, b, d, _, _, _, _, _, h6⟩ := h
  exact (Array.getElem?_eq_some_iff.1 h6).1
theorem PCh.ge {N0 q n : Nat} {w : World} {c : Nat} {D : List Int} (h : PCh N0 q n w c D) : N0 ≤ c := by
  obtain ⟨s, b, d, _, _, _, _, h5, _⟩ := h
  exact h5
theorem PCh.below {N0 q n : Nat} {w w' : World} {c : Nat} {D : List Int} (h : PCh N0 q n w c D) (e : Below w.heap.size w w') : PCh N0 q n w' c D :=
  h.blocks (e.block c h.lt) (fun b hb => e.block b (by have := h.ge; have := h.lt; omega))
end Go.Proofs.YtlhjifpomchnfaaGreatDoor

namespace Go.Proofs.YtlhjifpomchnfaaGreatDoor
open Go.RowKit

end Go.Proofs.YtlhjifpomchnfaaGreatDoor
