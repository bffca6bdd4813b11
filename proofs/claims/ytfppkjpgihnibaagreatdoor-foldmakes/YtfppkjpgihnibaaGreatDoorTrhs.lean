/- Package tree: a walk's pairList. slices.Equal; package tree: rowList. Trees: on the way down to a place. Plain. Package tree: parting. slices.BinarySearch of any ascending list; what Collide answers. -/
import Derived.Test.YtfppkjpgihnibaaGreatDoorTrgx
namespace Go.Proofs.YtfppkjpgihnibaaGreatDoor
open Go.RowKit

end Go.Proofs.YtfppkjpgihnibaaGreatDoor

namespace Go.Proofs.YtfppkjpgihnibaaGreatDoor
open Go.RowKit

end Go.Proofs.YtfppkjpgihnibaaGreatDoor

namespace Go.Proofs.YtfppkjpgihnibaaGreatDoor
open Go.RowKit

/-- what holds of a group on the way down in one walk -/
structure Way (q n N : Nat) (ps : List Int) (rows nodes : List (List Int)) (M' : Nat → Nat → Option (List Int)) (a b : Nat) : Prop where
  rd : Rd q n (M0 q n N ps rows nodes) a b (DV q n (M0 q n N ps rows nodes) a b)
  found : M' a b ≠ none

theorem Way.down {q n N : Nat} {ps : List Int} {rows nodes : List (List Int)} {M' : Nat → Nat → Option (List Int)} {a b j : Nat} (h : Way q n N ps rows nodes M' a b) (h1 : 1 ≤ N) (hj : j < ps.length) (ha : (a : Int) ≤ zat ps j) (hb : zat ps j < (b : Int)) (h2 : 2 ≤ b - a)
    (hcl : ClM (M0 q n N ps rows nodes) M') : Way q n N ps rows nodes M' a (a + lft (b - a)) ∧ Way q n N ps rows nodes M' (a + lft (b - a)) b ∧ DV q n (M0 q n N ps rows nodes) a b = digl q n (1 :: (DV q n (M0 q n N ps rows nodes) a (a + lft (b - a)) ++ DV q n (M0 q n N ps rows nodes) (a + lft (b - a)) b)) := by
  have hno : M0 q n N ps rows nodes a b = none := M0_none h1 h2 (smb_iff.2 ⟨j, hj, ha, hb⟩)
  have hr := h.rd
  generalize hD : DV q n (M0 q n N ps rows nodes) a b = D at hr
  cases hr with
  | found e => rw [hno] at e; cases e
  | node _ _ r1 r2 =>
    rcases hcl a b h.found with hc | ⟨_, c1, c2⟩
    · exact absurd hno hc
    · refine ⟨⟨by rw [DV_eq r1]; exact r1, c1⟩, ⟨by rw [DV_eq r2]; exact r2, c2⟩, ?_⟩
      rw [DV_eq r1, DV_eq r2]

end Go.Proofs.YtfppkjpgihnibaaGreatDoor

namespace Go.Proofs.YtfppkjpgihnibaaGreatDoor
open Go.RowKit

/-- a list, as a value -/
def LstV (W : World) (v : Value) (U : List Int) : Prop := ∃ a c, v = .slice a U.length c ∧ Lst W.heap.size W a c U
theorem LstV.keep {W W' : World} {v : Value} {U : List Int} (h : LstV W v U) (hb : Below W.heap.size W W') : LstV W' v U := by
  obtain ⟨a, c, rfl, hl⟩ := h
  exact ⟨a, c, rfl, (hl.below hb).mono hb.size⟩
theorem LstV.of {W : World} {base : Nat} {v : Value} {U : List Int} (h : W.ownsRow base 3 1 v U.length (U.map (Value.int .i64))) : LstV W v U := by
  obtain ⟨a, c, rfl, hl⟩ := lst_of_owns h
  exact ⟨a, c, rfl, hl⟩
/-- the state of the way down -/
structure PSt (q n N : Nat) (psA psB : List Int) (rowsA nodesA rowsB nodesB : List (List Int)) (MA MB : Nat → Nat → Option (List Int)) (w : World) (a b : Nat) (wr : World) : Prop where
  row : wr.rowIs w.heap.size 212 2 (duo (.int .i64 (a : Int)) (.int .i64 (b : Int)))
  below : Below w.heap.size w wr
  wayA : Way q n N psA rowsA nodesA MA a b
  wayB : Way q n N psB rowsB nodesB MB a b
  same : DV q n (M0 q n N psA rowsA nodesA) a b = DV q n (M0 q n N psB rowsB nodesB) a b

end Go.Proofs.YtfppkjpgihnibaaGreatDoor

namespace Go.Proofs.YtfppkjpgihnibaaGreatDoor
open Go.RowKit

/-- rows that are unlike at a place that both show -/
def Apart (q : Nat) (psA : List Int) (rowsA : List (List Int)) (psB : List Int) (rowsB : List (List Int)) : Prop := ∃ i j, i < psA.length ∧ j < psB.length ∧ zat psA i = zat psB j ∧ elr q (rat rowsA i) ≠ elr q (rat rowsB j)
end Go.Proofs.YtfppkjpgihnibaaGreatDoor
