/- Package pledge: weights, extend. Package pledge: powers, Mix. Package pledge: extend: a question. -/
import Derived.Test.YtlhjifpomchnfaaGreatDoorPoAO
import Derived.Test.YtlhjifpomchnfaaGreatDoorPoAE
namespace Go.Proofs.YtlhjifpomchnfaaGreatDoor
open Go.RowKit

end Go.Proofs.YtlhjifpomchnfaaGreatDoor

namespace Go.Proofs.YtlhjifpomchnfaaGreatDoor
open Go.RowKit

end Go.Proofs.YtlhjifpomchnfaaGreatDoor

namespace Go.Proofs.YtlhjifpomchnfaaGreatDoor
open Go.RowKit

/-- what extend holds: the field, the weights, all new from lo on -/
structure ExQ (w : World) (lo B0 B1 b : Nat) (L : List Int) : Prop where
  f : w.cell? ⟨B0, 0, none⟩ = some (.pointer (some ⟨b, 0, none⟩))
  lo0 : lo ≤ B0
  lo1 : lo ≤ B1
  w' : ∃ aw cw, w.cell? ⟨B1, 0, none⟩ = some (.slice aw L.length cw) ∧ Lst w.heap.size w aw cw L ∧ NewR lo w aw L
theorem ExQ.blocks {w W : World} {lo B0 B1 b : Nat} {L : List Int} (h : ExQ w lo B0 B1 b L) (hs : w.heap.size ≤ W.heap.size) (e : ∀ k, lo ≤ k → k < w.heap.size → W.heap[k]? = w.heap[k]?) : ExQ W lo B0 B1 b L := by
  obtain ⟨h1, l0, l1, aw, cw, h2, h3, h4⟩ := h
  have hc : ∀ {x : Addr} {v : Value}, lo ≤ x.block → w.cell? x = some v → W.cell? x = some v := fun {x v} hl hx => (World.cell?_of_block (w := w) (e x.block hl (World.block_lt_of_cell? _ _ hx))).trans hx
  exact ⟨hc l0 h1, l0, l1, aw, cw, hc l1 h2, ⟨fun k hk => by
    obtain ⟨b', o', e1, e2, e3⟩ := h4 k hk
    exact ⟨b', o', e1, Nat.lt_of_lt_of_le e2.2 hs, hc e2.1 e3⟩, h3.room, h3.nil⟩, fun k hk => by
    obtain ⟨b', o', e1, e2, e3⟩ := h4 k hk
    exact ⟨b', o', e1, ⟨e2.1, Nat.lt_of_lt_of_le e2.2 hs⟩, hc e2.1 e3⟩⟩
theorem ExQ.below {w W : World} {lo B0 B1 b : Nat} {L : List Int} (h : ExQ w lo B0 B1 b L) (e : Below w.heap.size w W) : ExQ W lo B0 B1 b L := h.blocks e.size (fun k _ hk => e.block k hk)

end Go.Proofs.YtlhjifpomchnfaaGreatDoor
