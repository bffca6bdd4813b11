/- Package sponge: Hash. -/
import Derived.Test.YtaapbopcfpihbabDoorGcAF
import Derived.Test.YtaapbopcfpihbabDoorGcAD
namespace Go.Proofs.YtaapbopcfpihbabDoor
open Go.RowKit Go.Shelf

attribute [local go_sem] Oper.semAt_some

/-! ## one block alone has turned of what was there -/
theorem gb_blk {g k : Nat} {A B : World} (h : A.grownBy B (some g)) (hk : k < A.heap.size) (hne : k ≠ g) : B.heap[k]? = A.heap[k]? := h.block k hk (by intro e; injection e with e; exact hne e)
end Go.Proofs.YtaapbopcfpihbabDoor
