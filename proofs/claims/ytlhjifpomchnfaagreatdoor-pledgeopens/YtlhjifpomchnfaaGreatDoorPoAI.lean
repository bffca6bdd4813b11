/- Package tree: Check. slices.Sorted of slices.Values, slices.Compact: the places once each, ascending. Trees: the roots of groups of rows; what Open's nodes are. Plain. Package tree: Open: what stands in memory while it goes on; its errors. Package pledge: the shape of a table: wide, tall, newShape; mayAsk, isTold. -/
import Derived.Test.YtlhjifpomchnfaaGreatDoorPoAH
import Derived.Shelf.Slices.In.SortNone
import Derived.Lib.SlKeysI
import Derived.Test.YtlhjifpomchnfaaGreatDoorPoAC
import Derived.Test.YtlhjifpomchnfaaGreatDoorPoAA
import Derived.Test.YtlhjifpomchnfaaGreatDoorPoAE
import Derived.Test.YtlhjifpomchnfaaGreatDoorDoms
import Derived.Test.YtlhjifpomchnfaaGreatDoorCodA
import Derived.Deep.RegionHeld3
namespace Go.Proofs.YtlhjifpomchnfaaGreatDoor
open Go.RowKit

end Go.Proofs.YtlhjifpomchnfaaGreatDoor

namespace Go.Proofs.YtlhjifpomchnfaaGreatDoor
open Go.RowKit Go.Sort

/-! ## plain -/
/-! ## slices.Sorted -/
/-! ## slices.Compact -/
end Go.Proofs.YtlhjifpomchnfaaGreatDoor

namespace Go.Proofs.YtlhjifpomchnfaaGreatDoor
open Go.RowKit

end Go.Proofs.YtlhjifpomchnfaaGreatDoor

namespace Go.Proofs.YtlhjifpomchnfaaGreatDoor
open Go.RowKit

/-! ## an Opening and a map alone have turned -/
/-- of the blocks two alone have turned: an Opening, and what is no cells -/
def NotC (w : World) (B : Nat) : Prop := ∀ c t f, w.heap[B]? ≠ some (.cells c t f)
theorem SlR.pair {w w' : World} {O B : Nat} {u : Value} {r : List Int} (h : SlR w r u) (hO : ∃ c f, w.heap[O]? = some (.cells c 31 f)) (hB : B = O ∨ NotC w B) (hp : Pair O B w w') : SlR w' r u :=
  h.blocks hp.size (fun b hb hn => by
    have h1 := ne_O hO hn
    refine hp.block b hb h1 ?_
    rcases hB with rfl | hB
    · exact h1
    · rintro rfl
      obtain ⟨c, t, f, h2, _⟩ := hn
      exact hB c t f h2)
theorem OwnR.pair {base : Nat} {w w' : World} {O B : Nat} {u : Value} {rs : List (List Int)} (h : OwnR base w u rs) (hO : ∃ c f, w.heap[O]? = some (.cells c 31 f)) (hB : B = O ∨ NotC w B) (hp : Pair O B w w') : OwnR base w' u rs := by
  obtain ⟨vals, ⟨h0, h1⟩, h2⟩ := h
  refine ⟨vals, ⟨h0, ?_⟩, fun j hj => ?_⟩
  · rcases h1 with h1 | ⟨g, cap, cur, h3, h4, hg, h5⟩
    · exact .inl h1
    · have hgO : g ≠ O := by
        rintro rfl
        obtain ⟨c, f, h6⟩ := hO
        rw [hg] at h6
        injection h6 with h6
        injection h6 with _ h6 _
        exact absurd h6 (by decide)
      refine .inr ⟨g, cap, cur, h3, h4, (hp.block g (Array.getElem?_eq_some_iff.1 hg).1 hgO ?_).trans hg, h5⟩
      rcases hB with rfl | hB
      · exact hgO
      · rintro rfl
        exact hB _ _ _ hg
  · obtain ⟨x, h3, h4⟩ := h2 j hj
    exact ⟨x, h3, h4.pair hO hB hp⟩
/-! ## what Open answers -/
end Go.Proofs.YtlhjifpomchnfaaGreatDoor

namespace Go.Proofs.YtlhjifpomchnfaaGreatDoor
open Go.RowKit

end Go.Proofs.YtlhjifpomchnfaaGreatDoor
