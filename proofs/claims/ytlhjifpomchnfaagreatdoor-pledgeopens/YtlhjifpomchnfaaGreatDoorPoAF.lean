/- Package tree: hidden. Package tree: slices.ContainsFunc of a group's lacks. Package tree: isShown. -/
import Derived.Test.YtlhjifpomchnfaaGreatDoorTrgs
import Derived.Test.YtlhjifpomchnfaaGreatDoorHeldS
import Derived.Test.YtlhjifpomchnfaaGreatDoorTres
namespace Go.Proofs.YtlhjifpomchnfaaGreatDoor
open Go.RowKit

/-- groups, as cells -/
def gcsT (l : List (Nat × Nat)) : List Value := l.flatMap (fun g => [Value.int .i64 (g.1 : Int), Value.int .i64 (g.2 : Int)])
/-- groups of the call's own -/
def OwnG (base : Nat) (w : World) (v : Value) (l : List (Nat × Nat)) : Prop := w.ownsRow base 201 2 v l.length (gcsT l)
theorem OwnG.nil (base : Nat) (w : World) : OwnG base w (.slice none 0 0) [] := World.ownsRow_nil _ _ _ _
theorem OwnG.keep {base : Nat} {w w' : World} {v : Value} {l : List (Nat × Nat)} (h : OwnG base w v l) (e : Below w.heap.size w w') : OwnG base w' v l := by
  refine World.ownsRow.kept h (w' := w') (row := none) ⟨e.os, e.tape, e.output, e.size, fun k hk _ => e.block k hk⟩ ?_
  cases v.ownBlock with
  | none => exact .inl rfl
  | some k => exact .inr (by simp)
theorem OwnG.mono {base base' : Nat} {w : World} {v : Value} {l : List (Nat × Nat)} (h : OwnG base w v l) (e : base' ≤ base) : OwnG base' w v l := World.ownsRow.mono h e

end Go.Proofs.YtlhjifpomchnfaaGreatDoor

namespace Go.Proofs.YtlhjifpomchnfaaGreatDoor
open Go.RowKit

end Go.Proofs.YtlhjifpomchnfaaGreatDoor

namespace Go.Proofs.YtlhjifpomchnfaaGreatDoor
open Go.RowKit

def ShwnR (N : Nat) (ps : List Int) (rows nodes : List (List Int)) (w : World) (e : Ending) (w' : World) : Prop := (∃ t, e = .returned (.bool t) ∧ (t = true ↔ shwn N ps rows nodes)) ∧ Below w.heap.size w w'
theorem ShwnR.no {N : Nat} {ps : List Int} {rows nodes : List (List Int)} {w w' : World} (h : ¬ shwn N ps rows nodes) (hb : Below w.heap.size w w') : ShwnR N ps rows nodes w (.returned (.bool false)) w' := ⟨⟨false, rfl, by simp; exact h⟩, hb⟩
theorem ShwnR.mk {N : Nat} {ps : List Int} {rows nodes : List (List Int)} {w w' : World} (t : Bool) (h : t = true ↔ shwn N ps rows nodes) (hb : Below w.heap.size w w') : ShwnR N ps rows nodes w (.returned (.bool t)) w' := ⟨⟨t, rfl, h⟩, hb⟩
/-- an Opening in memory -/
structure OpnAt (W : World) (O cp cr cn : Nat) (ap ar an' : Option Addr) (ps : List Int) (rows nodes : List (List Int)) : Prop where
  c0 : W.cell? ⟨O, 0, none⟩ = some (.slice ap ps.length cp)
  c1 : W.cell? ⟨O, 1, none⟩ = some (.slice ar rows.length cr)
  c2 : W.cell? ⟨O, 2, none⟩ = some (.slice an' nodes.length cn)

end Go.Proofs.YtlhjifpomchnfaaGreatDoor
