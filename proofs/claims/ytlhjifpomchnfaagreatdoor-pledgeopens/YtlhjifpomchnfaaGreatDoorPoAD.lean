
import Derived.Test.YtlhjifpomchnfaaGreatDoorPoAC
import Derived.Test.YtlhjifpomchnfaaGreatDoorFld
import Derived.Sort.CutIn
import Derived.Test.YtlhjifpomchnfaaGreatDoorPoAA
set_option maxRecDepth 1000000
set_option maxHeartbeats 8000000
namespace Go.Proofs.YtlhjifpomchnfaaGreatDoor
open Go.RowKit Go.Shelf
attribute [local go_sem] Oper.semAt_some
open Go.RowKit
def fc (p : Nat) (xs ys : List Int) (i : Nat) : Int := zat ys i * (invn p (evz p (vskl p xs i xs.length) (zat xs i)) : Int) % (p : Int)
def FS (p : Nat) (xs ys : List Int) : Nat -> Nat -> Int
 | 0 => Pol.zero
 | i + 1 => Pol.add (FS p xs ys i) (Pol.sc (fc p xs ys i) (Pol.vsk (zat xs) i xs.length))
end Go.Proofs.YtlhjifpomchnfaaGreatDoor
