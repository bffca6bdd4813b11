/- What package chain must answer; attestlaw3.done, of that. -/
import Derived.Test.YtmmlphdekeflfaaGreatDoorPcAU
import Derived.Test.YtmmlphdekeflfaaGreatDoorPls
import Derived.Test.YtmmlphdekeflfaaGreatDoorDoms
import Derived.Test.YtmmlphdekeflfaaGreatDoorTres
namespace Go.Proofs.YtmmlphdekeflfaaGreatDoor
open Go.RowKit

/-- a digest -/
def Dig (D : List Int) : Prop := D.length = 4 ∧ Fits D
theorem dig_digl {q : Nat} (h3 : 3 ≤ q) (h4 : q ≤ 2147483647) (n : Nat) (l : List Int) : Dig (digl q n l) := ⟨digl_len _ _ _, digl_fits h3 h4 _ _⟩
theorem NumL.other {w w' : World} {a : Option Addr} {c s : Nat} {l : List Int} (h : NumL w a c l) (e : w.grownBy w' (some s)) (hs : ∀ (cs : Array Value) (f : Nat × Nat), w.heap[s]? ≠ some (.cells cs 3 f)) : NumL w' a c l :=
  h.blocks e.size (fun g cs f hg => gb_blk e (Array.getElem?_eq_some_iff.1 hg).1 (fun he => hs cs f (by rw [← he]; exact hg)))
end Go.Proofs.YtmmlphdekeflfaaGreatDoor
