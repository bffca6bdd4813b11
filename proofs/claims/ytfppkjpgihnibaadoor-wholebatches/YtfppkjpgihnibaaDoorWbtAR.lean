/- Package machine: work, quotients. Package machine: work, calls. Package machine: cells, work and move for any instruction. attestref6.Walk: the walk. Package machine: step. -/
import Derived.Test.YtfppkjpgihnibaaDoorWbtAP
import Derived.Test.YtfppkjpgihnibaaDoorSpgs
import Derived.Test.YtfppkjpgihnibaaDoorMahEa
import Derived.Test.YtfppkjpgihnibaaDoorWbtAQ
import Derived.Test.YtfppkjpgihnibaaDoorWbtAF
import Derived.Deep.RegionHeld3
namespace Go.Proofs.YtfppkjpgihnibaaDoor
open Go.RowKit Go.Maps

end Go.Proofs.YtfppkjpgihnibaaDoor

namespace Go.Proofs.YtfppkjpgihnibaaDoor
open Go.RowKit Go.Maps

end Go.Proofs.YtfppkjpgihnibaaDoor

namespace Go.Proofs.YtfppkjpgihnibaaDoor
open Go.RowKit Go.Maps

end Go.Proofs.YtfppkjpgihnibaaDoor

namespace Go.Proofs.YtfppkjpgihnibaaDoor
open Go.RowKit

section
variable {P : Program} {ops : Array Oper} {Q : Exit → Act → World → Prop} {md : Region.Mode} {S : World → Prop}
end
/-- what is known at the loop's head -/
structure WkI (p limit : Nat) (L : List InsZ) (X : WR) (s : RM) (l : List (List Int)) (f : Nat) : Prop where
  is : X = mgo p L limit f { s with slot := 0 } l
  fuel : l.length + f = limit + 1
  pos : 1 ≤ f
  cs : ∀ j, j < s.cs.length → 0 ≤ (cat s.cs j).2 ∧ (cat s.cs j).2 < p
  len : s.cs.length ≤ 1 + 2 * l.length
  rg : RgB p ⟨s.pc, s.fp, s.ap, s.rv⟩
  err : s.err = 0
end Go.Proofs.YtfppkjpgihnibaaDoor

namespace Go.Proofs.YtfppkjpgihnibaaDoor
open Go.RowKit Go.Maps

/-- of the blocks that were there two alone have turned -/
structure Gr2 (B R : Nat) (w W : World) : Prop where
  os : W.os = w.os
  tape : W.tape = w.tape
  output : W.output = w.output
  size : w.heap.size ≤ W.heap.size
  block : ∀ k, k < w.heap.size → k ≠ B → k ≠ R → W.heap[k]? = w.heap[k]?
theorem Gr2.trans {B R : Nat} {a b c : World} (h : Gr2 B R a b) (k : Gr2 B R b c) : Gr2 B R a c := ⟨k.os.trans h.os, k.tape.trans h.tape, k.output.trans h.output, Nat.le_trans h.size k.size, fun j hj h1 h2 => (k.block j (Nat.lt_of_lt_of_le hj h.size) h1 h2).trans (h.block j hj h1 h2)⟩
theorem Gr2.to {B R N : Nat} {w W : World} (h : Gr2 B R w W) (hB : N ≤ B) (hR : N ≤ R) (hs : N ≤ w.heap.size) : Below N w W := ⟨h.os, h.tape, h.output, h.size, fun k hk => h.block k (by omega) (by omega) (by omega)⟩

/-- two ways that meet again -/
theorem share {Good F : Nat → World → Prop} {goal : Prop} (h2 : (∀ G W, Good G W → F G W) → goal) (h1 : ∀ G W, Good G W → F G W) : goal := h2 h1
end Go.Proofs.YtfppkjpgihnibaaDoor
