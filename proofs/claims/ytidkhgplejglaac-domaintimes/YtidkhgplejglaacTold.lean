/- plain.Told, attestsame.Error, attestref1.Prime and attestsame.Field by their contracts: of a prime that may be there is a field, of any other number there is none, and both sides say so. -/
import Derived.Test.YtidkhgplejglaacAs
import Derived.Test.YtidkhgplejglaacNew
namespace Go.Proofs.Ytidkhgplejglaac
open Go.RowKit

theorem cell_lt {w : World} {a : Addr} {v : Value} (h : w.cell? a = some v) : a.block < w.heap.size := by
  rcases Nat.lt_or_ge a.block w.heap.size with g | g
  · exact g
  · simp [World.cell?, Array.getElem?_eq_none g] at h

/-- what attestref1.Prime answers -/
def SaysPrime (n : Nat) (e : Ending) : Prop := (e = .returned (.bool false) ∧ ¬ Num.Prime n) ∨ (e = .returned (.bool true) ∧ Num.Prime n)

end Go.Proofs.Ytidkhgplejglaac
