
import Derived.Test.YtlhjifpomchnfaaGreatDoorPoBC
import Derived.Test.YtlhjifpomchnfaaGreatDoorPoAA
import Derived.Test.YtlhjifpomchnfaaGreatDoorPoBA
import Derived.Test.YtlhjifpomchnfaaGreatDoorPoBB
set_option maxRecDepth 1000000
set_option maxHeartbeats 8000000
namespace Go.Proofs.YtlhjifpomchnfaaGreatDoor
open Go.RowKit
structure Plg where
 root : List Int
 mixed : List Int
 point : List Int
 ps : List Int
 rows : List (List Int)
 nodes : List (List Int)
structure PlA where
 a1 : Option Addr
 a2 : Option Addr
 a3 : Option Addr
 ap : Option Addr
 ar : Option Addr
 an : Option Addr
 c1 : Nat
 c2 : Nat
 c3 : Nat
 cp : Nat
 cr : Nat
 cn : Nat
structure PlW (w : World) (A : PlA) (o : Plg) : Prop where
 l1 : Lst w.heap.size w A.a1 A.c1 o.root
 l2 : Lst w.heap.size w A.a2 A.c2 o.mixed
 l3 : Lst w.heap.size w A.a3 A.c3 o.point
 lp : Lst w.heap.size w A.ap A.cp o.ps
 lr : LstR w.heap.size w A.ar A.cr o.rows
 ln : LstR w.heap.size w A.an A.cn o.nodes
theorem PlW.step {w W : World} {A : PlA} {o : Plg} (h : PlW w A o) (e : Below w.heap.size w W) : PlW W A o :=
 ⟨(h.l1.below e).mono e.size, (h.l2.below e).mono e.size, (h.l3.below e).mono e.size, (h.lp.below e).mono e.size, (h.lr.below e).mono e.size, (h.ln.below e).mono e.size⟩
abbrev plC (A : PlA) (o : Plg) : Array Value := #[.slice A.a1 o.root.length A.c1, .slice A.a2 o.mixed.length A.c2, .slice A.a3 o.point.length A.c3, .slice A.ap o.ps.length A.cp, .slice A.ar o.rows.length A.cr, .slice A.an o.nodes.length A.cn]
end Go.Proofs.YtlhjifpomchnfaaGreatDoor
