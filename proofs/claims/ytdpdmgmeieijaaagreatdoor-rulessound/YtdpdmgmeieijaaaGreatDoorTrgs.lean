/- slices.BinarySearch at lists of numbers, by the library's own contract: laid for this program. A map of digests by groups, in memory. Package tree: isSize, isDigest, a group's lacks and parts, newWalk. Package tree: digestOf, elements. Trees: which groups are hidden, and what their root is worked out of. Plain. Trees: what Check is to answer, of the groups that are found. Plain. -/
import Derived.Shelf.Slices.SearchI
import Derived.Test.YtdpdmgmeieijaaaGreatDoorProg
import Derived.Test.YtdpdmgmeieijaaaGreatDoorSpgs
import Derived.Maps.OwnOps
import Derived.Maps.OwnSet
import Derived.DeepKeys4
import Derived.Laws.AppendOwn
import Derived.WalkArith
import Derived.Test.YtdpdmgmeieijaaaGreatDoorRefs
import Derived.Deep.RegionHeld3
import Derived.Test.YtdpdmgmeieijaaaGreatDoorTres
namespace Go.Proofs
open Go.Shelf

end Go.Proofs

namespace Go.Proofs.YtdpdmgmeieijaaaGreatDoor
open Go.RowKit

/-- a group, as a value -/
def gk (a b : Nat) : Value := .agg #[.int .i64 (a : Int), .int .i64 (b : Int)]
theorem laidOut : laidOutB Tryz.prog = true := by kernel_rfl
/-- what a map of digests holds: the first of a list at a key is its own -/
def MapIs (w : World) (B : Nat) (M : Nat → Nat → Option (List Int)) : Prop :=
  ∃ es clock, w.heap[B]? = some (.map es clock) ∧ (∀ e ∈ es.toList, ∃ a b d, e.key = gk a b ∧ a ≤ 1000000000 ∧ b ≤ 1000000000 ∧ M a b = some d ∧ e.val = .agg (an 4 (zat d))) ∧ (∀ a b d, M a b = some d → ∃ e ∈ es.toList, e.key = gk a b) ∧ es.toList.Pairwise (fun x y => x.key ≠ y.key)

theorem MapIs.lt {w : World} {B : Nat} {M : Nat → Nat → Option (List Int)} (h : MapIs w B M) : B < w.heap.size := by
  obtain ⟨es, clock, hb, _⟩ := h
  exact (Array.getElem?_eq_some_iff.1 hb).1
theorem MapIs.block {w w' : World} {B : Nat} {M : Nat → Nat → Option (List Int)} (h : MapIs w B M) (e : w'.heap[B]? = w.heap[B]?) : MapIs w' B M := by
  obtain ⟨es, clock, hb, r⟩ := h
  exact ⟨es, clock, e.trans hb, r⟩
theorem MapIs.below {w w' : World} {B n0 : Nat} {M : Nat → Nat → Option (List Int)} (h : MapIs w B M) (e : Below n0 w w') (hb : B < n0) : MapIs w' B M := h.block (e.block B hb)
theorem MapIs.new (w : World) : MapIs (w.alloc (.map #[] 0)) w.heap.size (fun _ _ => none) := ⟨#[], 0, (MapKept.heap_alloc w _).1, by simp, by simp, by simp⟩

end Go.Proofs.YtdpdmgmeieijaaaGreatDoor

namespace Go.Proofs.YtdpdmgmeieijaaaGreatDoor
open Go.RowKit

end Go.Proofs.YtdpdmgmeieijaaaGreatDoor

namespace Go.Proofs.YtdpdmgmeieijaaaGreatDoor
open Go.RowKit

end Go.Proofs.YtdpdmgmeieijaaaGreatDoor

namespace Go.Proofs.YtdpdmgmeieijaaaGreatDoor
open Go.RowKit

/-- the groups that nodes stand for -/
def hd2 (ps : List Int) : Nat → Nat → Nat → List (Nat × Nat)
  | 0, _, _ => []
  | k + 1, a, c => if smb ps (a : Int) ((a : Int) + (c : Int)) = false then [(a, a + c)] else if c = 1 then [] else hd2 ps k a (lft c) ++ hd2 ps k (a + lft c) (c - lft c)
/-- what a root is worked out of -/
inductive Rd (q n : Nat) (M : Nat → Nat → Option (List Int)) : Nat → Nat → List Int → Prop
  | found {a b : Nat} {d : List Int} : M a b = some d → Rd q n M a b d
  | node {a b : Nat} {da db : List Int} : M a b = none → 2 ≤ b - a → Rd q n M a (a + lft (b - a)) da → Rd q n M (a + lft (b - a)) b db → Rd q n M a b (digl q n (1 :: (da ++ db)))
/-- what a walk can work out: each group is found, or both its parts are -/
inductive Rdy (q n : Nat) (D : Nat → Nat → List Int) (M : Nat → Nat → Option (List Int)) : Nat → Nat → Prop
  | found {a b : Nat} : M a b ≠ none → Rdy q n D M a b
  | node {a b : Nat} : 2 ≤ b - a → D a b = digl q n (1 :: (D a (a + lft (b - a)) ++ D (a + lft (b - a)) b)) → Rdy q n D M a (a + lft (b - a)) → Rdy q n D M (a + lft (b - a)) b → Rdy q n D M a b
/-- a digest: four elements -/
def Dgst (q : Nat) (d : List Int) : Prop := d.length = 4 ∧ ∀ j, j < 4 → 0 ≤ zat d j ∧ zat d j < (q : Int)
theorem Dgst.fits {q : Nat} {d : List Int} (h : Dgst q d) (h4 : q ≤ 2147483647) : Fits d := fun j hj => by
  have := h.2 j (by rw [← h.1]; exact hj)
  omega
theorem Dgst.elr {q : Nat} {d : List Int} (h : d.length = 4) (hq : 0 < q) : Dgst q (elr q d) := by
  refine ⟨by unfold Go.Proofs.YtdpdmgmeieijaaaGreatDoor.elr; rw [ls_len]; exact h, fun j hj => ?_⟩
  unfold Go.Proofs.YtdpdmgmeieijaaaGreatDoor.elr
  rw [ls_at _ _ _ (by omega)]
  exact ⟨Int.emod_nonneg _ (by omega), Int.emod_lt_of_pos _ (by omega)⟩
theorem Dgst.digl {q : Nat} (h3 : 3 ≤ q) (n : Nat) (l : List Int) : Dgst q (digl q n l) := by
  rw [← elr_digl h3 n l]
  exact Dgst.elr (digl_len _ _ _) (by omega)
theorem Dgst.zero {q : Nat} (hq : 0 < q) : Dgst q [0, 0, 0, 0] := ⟨rfl, fun j hj => by
  have : zat [0, 0, 0, 0] j = 0 := by
    rcases j with _ | _ | _ | _ | j <;> first | rfl | omega
  omega⟩
end Go.Proofs.YtdpdmgmeieijaaaGreatDoor

namespace Go.Proofs.YtdpdmgmeieijaaaGreatDoor
open Go.RowKit

/-- the nodes, each at its group; the rows, each at its place -/
def L1 (q : Nat) (hd : List (Nat × Nat)) (nodes : List (List Int)) (k : Nat) : List ((Nat × Nat) × List Int) := (List.range k).map (fun i => (hd.getD i (0, 0), elr q (rat nodes i)))
/-- what isShown tells -/
def shwn (N : Nat) (ps : List Int) (rows nodes : List (List Int)) : Prop := rows.length = ps.length ∧ AscN (N : Int) ps ∧ (∀ i, i < nodes.length → (rat nodes i).length = 4) ∧ nodes.length = (hd2 ps N 0 N).length
end Go.Proofs.YtdpdmgmeieijaaaGreatDoor
