/- Package tree: hidden. Package tree: slices.ContainsFunc of a group's lacks. Package tree: isShown. -/
import Derived.Test.YtdpdmgmeieijaaaGreatDoorTrgs
import Derived.Test.YtdpdmgmeieijaaaGreatDoorHeldS
import Derived.Test.YtdpdmgmeieijaaaGreatDoorTres
namespace Go.Proofs.YtdpdmgmeieijaaaGreatDoor
open Go.RowKit

end Go.Proofs.YtdpdmgmeieijaaaGreatDoor

namespace Go.Proofs.YtdpdmgmeieijaaaGreatDoor
open Go.RowKit

end Go.Proofs.YtdpdmgmeieijaaaGreatDoor

namespace Go.Proofs.YtdpdmgmeieijaaaGreatDoor
open Go.RowKit

def ShwnR (N : Nat) (ps : List Int) (rows nodes : List (List Int)) (w : World) (e : Ending) (w' : World) : Prop := (∃ t, e = .returned (.bool t) ∧ (t = true ↔ shwn N ps rows nodes)) ∧ Below w.heap.size w w'
theorem ShwnR.no {N : Nat} {ps : List Int} {rows nodes : List (List Int)} {w w' : World} (h : ¬ shwn N ps rows nodes) (hb : Below w.heap.size w w') : ShwnR N ps rows nodes w (.returned (.bool false)) w' := ⟨⟨false, rfl, by simp; exact h⟩, hb⟩
theorem ShwnR.mk {N : Nat} {ps : List Int} {rows nodes : List (List Int)} {w w' : World} (t : Bool) (h : t = true ↔ shwn N ps rows nodes) (hb : Below w.heap.size w w') : ShwnR N ps rows nodes w (.returned (.bool t)) w' := ⟨⟨t, rfl, h⟩, hb⟩
/-- an Opening in memory -/
structure OpnAt (W : World) (O cp cr cn : Nat) (ap ar an' : Option Addr) (ps : List Int) (rows nodes : List (List Int)) : Prop where
  c0 : W.cell? ⟨O, 0, none⟩ = some (.slice ap ps.length cp)
  c1 : W.cell? ⟨O, 1, none⟩ = some (.slice ar rows.length cr)
  c2 : W.cell? ⟨O, 2, none⟩ = some (.slice an' nodes.length cn)

end Go.Proofs.YtdpdmgmeieijaaaGreatDoor
