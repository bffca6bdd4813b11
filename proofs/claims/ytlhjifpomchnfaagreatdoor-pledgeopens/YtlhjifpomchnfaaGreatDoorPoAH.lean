/- Package tree: a walk's root, where it is not found: both its parts' roots. Package tree: a walk's root. Package tree: checked, where it is not taken. Two digests compared. Package tree: checked, where it is right by its form. -/
import Derived.Test.YtlhjifpomchnfaaGreatDoorPoAG
import Derived.Test.YtlhjifpomchnfaaGreatDoorPoAF
namespace Go.Proofs.YtlhjifpomchnfaaGreatDoor
open Go.RowKit

end Go.Proofs.YtlhjifpomchnfaaGreatDoor

namespace Go.Proofs.YtlhjifpomchnfaaGreatDoor
open Go.RowKit

end Go.Proofs.YtlhjifpomchnfaaGreatDoor

namespace Go.Proofs.YtlhjifpomchnfaaGreatDoor
open Go.RowKit

end Go.Proofs.YtlhjifpomchnfaaGreatDoor

namespace Go.Proofs.YtlhjifpomchnfaaGreatDoor
open Go.RowKit

end Go.Proofs.YtlhjifpomchnfaaGreatDoor

namespace Go.Proofs.YtlhjifpomchnfaaGreatDoor
open Go.RowKit

/-- what stands while a walk goes on -/
structure CkW (w : World) (g B s : Nat) (opn : Array Value) (W : World) (M : Nat → Nat → Option (List Int)) : Prop where
  below : Below w.heap.size w W
  opn : W.heap[w.heap.size]? = some (.cells opn 31 (0, 0))
  wlk : WlkAt W g B s
  map : MapIs W B M
/-- a walk that has come to its root -/
def WlkDone (q n N : Nat) (ps : List Int) (rows nodes : List (List Int)) (w : World) (g B s : Nat) (w' : World) : Prop :=
  w.heap.size < B ∧ WlkAt w' g B s ∧ Below w.heap.size w w' ∧ ∃ M', MapIs w' B M' ∧ Snd M' (DV q n (M0 q n N ps rows nodes)) ∧ ClM (M0 q n N ps rows nodes) M' ∧ M' 0 N ≠ none
theorem CkW.done {q n N : Nat} {ps : List Int} {rows nodes : List (List Int)} {w : World} {g B s : Nat} {opn : Array Value} {W : World} (hB : w.heap.size < B) (h : ∃ M', CkW w g B s opn W M' ∧ Snd M' (DV q n (M0 q n N ps rows nodes)) ∧ ClM (M0 q n N ps rows nodes) M' ∧ M' 0 N ≠ none) : WlkDone q n N ps rows nodes w g B s W := by
  obtain ⟨M', h1, h2, h3, h4⟩ := h
  exact ⟨hB, h1.wlk, h1.below, M', h1.map, h2, h3, h4⟩

end Go.Proofs.YtlhjifpomchnfaaGreatDoor
