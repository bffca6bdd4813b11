/- attestref6: the cells that are told, and the machine's own words. -/
import Derived.Test.YtjibpfdhaejfdaaDoorFld
import Derived.StillTailTactics
namespace Go.Proofs.YtjibpfdhaejfdaaDoor
open Go.RowKit

def cat (cs : List (Int × Int)) (j : Nat) : Int × Int := cs.getD j (0, 0)
/-- the place of a cell; -1: there is none -/
def finz (cs : List (Int × Int)) (x : Int) : Int := match cs.findIdx? (fun c => c.1 == x) with
  | some i => i
  | none => -1
/-- the reference's machine -/
structure RM where
  cs : List (Int × Int)
  pc : Int
  fp : Int
  ap : Int
  rv : Int
  at' : Nat → Int
  is' : Nat → Int
  slot : Nat
  err : Int
end Go.Proofs.YtjibpfdhaejfdaaDoor
