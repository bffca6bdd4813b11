/- Package machine: begun. Package machine: wrong. Package machine: what walked defers. -/
import Derived.Test.YtaibngnabhmabakDoorMahK
import Derived.Test.YtaibngnabhmabakDoorFld
import Derived.Defers
import Derived.Recover
namespace Go.Proofs.YtaibngnabhmabakDoor
open Go.RowKit Go.Maps

theorem cmap_nil : CMap (.map []) [] := fun _ _ => ⟨rfl, rfl⟩
end Go.Proofs.YtaibngnabhmabakDoor

namespace Go.Proofs.YtaibngnabhmabakDoor
open Go.RowKit Go.Maps

/-- an error, or none -/
def errV (z : Int) : Value := if z = 0 then .nilIface else .iface 64 (.int .i64 z)
end Go.Proofs.YtaibngnabhmabakDoor

namespace Go.Proofs.YtaibngnabhmabakDoor
open Go.RowKit Go.Maps

theorem fr23 (a b c v : Value) : (#[a, b, c] ++ (Array.replicate 20 undef).setIfInBounds 5 v : Array Value) = #[a, b, c, undef, undef, undef, undef, undef, v, undef, undef, undef, undef, undef, undef, undef, undef, undef, undef, undef, undef, undef, undef] := by kernel_rfl
theorem eq_nil (w : World) : (binOp BinOp.eql 20 .nilIface .nilIface).run Tryd.prog w = .ok (.bool true) w := by kernel_rfl

theorem frozen_alloc_old (w : World) (o : Obj) {p : Addr} (h : p.block < w.heap.size) : (w.alloc o).frozen? p = w.frozen? p := by
  have e : (w.alloc o).heap[p.block]? = w.heap[p.block]? := heap_alloc_old w o h
  unfold World.frozen?
  rw [e]
theorem ne_nil (T : TypeId) (w : World) : (binOp BinOp.eql 20 (.iface T (.agg #[])) .nilIface).run Tryd.prog w = .ok (.bool false) w := by kernel_rfl
end Go.Proofs.YtaibngnabhmabakDoor
