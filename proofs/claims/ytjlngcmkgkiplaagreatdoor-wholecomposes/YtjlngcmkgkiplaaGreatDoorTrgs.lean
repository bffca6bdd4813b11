
import Derived.Shelf.Slices.SearchI
import Derived.Test.YtjlngcmkgkiplaaGreatDoorProg
import Derived.Test.YtjlngcmkgkiplaaGreatDoorSpgs
import Derived.Maps.OwnOps
import Derived.Maps.OwnSet
import Derived.DeepKeys4
import Derived.Laws.AppendOwn
import Derived.WalkArith
import Derived.Test.YtjlngcmkgkiplaaGreatDoorRefs
import Derived.Deep.RegionHeld3
import Derived.Test.YtjlngcmkgkiplaaGreatDoorTres
set_option maxRecDepth 1000000
set_option maxHeartbeats 8000000
namespace Go.Proofs
open Go.Shelf
end Go.Proofs
namespace Go.Proofs.YtjlngcmkgkiplaaGreatDoor
open Go.RowKit
theorem laidOut : laidOutB Tryz.prog = true := by kernel_rfl
def hd2 (ps : List Int) : Nat -> Nat -> Nat -> List (Nat × Nat)
 | 0, _, _ => []
 | k + 1, a, c => if smb ps (a : Int) ((a : Int) + (c : Int)) = false then [(a, a + c)] else if c = 1 then [] else hd2 ps k a (lft c) ++ hd2 ps k (a + lft c) (c - lft c)
def L1 (q : Nat) (hd : List (Nat × Nat)) (nodes : List (List Int)) (k : Nat) : List ((Nat × Nat) × List Int) := (List.range k).map (fun i => (hd.getD i (0, 0), elr q (rat nodes i)))
end Go.Proofs.YtjlngcmkgkiplaaGreatDoor
