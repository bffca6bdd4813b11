/- attestref6: shown, look, tell, must. -/
import Derived.Test.YtjibpfdhaejfdaaDoorMacA
namespace Go.Proofs.YtjibpfdhaejfdaaDoor
open Go.RowKit

def updM (f : Nat → Int) (i : Nat) (x : Int) : Nat → Int := fun j => if j = i then x else f j
def RM.shown (s : RM) (x y : Int) : RM := { s with at' := updM s.at' s.slot x, is' := updM s.is' s.slot y, slot := s.slot + 1 }
end Go.Proofs.YtjibpfdhaejfdaaDoor
