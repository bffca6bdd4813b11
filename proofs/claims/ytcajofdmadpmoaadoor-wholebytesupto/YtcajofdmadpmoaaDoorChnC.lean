/- What package chain must answer; attestlaw3.done, of that. -/
import Derived.Test.YtcajofdmadpmoaaDoorWbAG
import Derived.Test.YtcajofdmadpmoaaDoorPls
import Derived.Test.YtcajofdmadpmoaaDoorDoms
import Derived.Test.YtcajofdmadpmoaaDoorTres
namespace Go.Proofs.YtcajofdmadpmoaaDoor
open Go.RowKit

theorem NumL.other {w w' : World} {a : Option Addr} {c s : Nat} {l : List Int} (h : NumL w a c l) (e : w.grownBy w' (some s)) (hs : ∀ (cs : Array Value) (f : Nat × Nat), w.heap[s]? ≠ some (.cells cs 3 f)) : NumL w' a c l :=
  h.blocks e.size (fun g cs f hg => gb_blk e (Array.getElem?_eq_some_iff.1 hg).1 (fun he => hs cs f (by rw [← he]; exact hg)))
end Go.Proofs.YtcajofdmadpmoaaDoor
