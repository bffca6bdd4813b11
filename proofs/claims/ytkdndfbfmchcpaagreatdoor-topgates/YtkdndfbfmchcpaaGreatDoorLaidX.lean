
import Derived.Test.YtkdndfbfmchcpaaGreatDoorEndsD
import Derived.Shelf.Spec.TrailingZeros
import Derived.Lib.TrailingZeros
import Derived.Lib.LaidTab
import Derived.Stop.LaidErr
set_option maxRecDepth 1000000
set_option maxHeartbeats 8000000
namespace Go.Proofs.YtkdndfbfmchcpaaGreatDoor
variable {W:World}
open Go.ChangeShapes Go.WideShapes Go.RowKit Go.Shelf
def Sc (cs:Array Value) (o:Obj):Obj:=match o with
 | .cells _ t frozen=>.cells cs t frozen
 | o=>o
def aA3 : List (String × DataW Unit) := [("math/bits.deBruijn32tab", Rows.laid_math_bits_deBruijn32tab), ("math/bits.deBruijn64tab", Rows.laid_math_bits_deBruijn64tab)]
theorem aFe:(Rows.laid_math_bits_deBruijn64tab:DataW Unit)=Lib.tabData .u8 (Lib.deBruijn64tab.map fun n:Nat=>(n:Int)):=by kernel_rfl
theorem Tryz.gtab64 : Tryz.prog.globalNamed "math/bits.deBruijn64tab" = some 1 := by kernel_rfl
theorem Sd (h : laidMet Tryz.prog [("math/bits.deBruijn32tab", Rows.laid_math_bits_deBruijn32tab), ("math/bits.deBruijn64tab", Rows.laid_math_bits_deBruijn64tab)] W) : TabAt 1 Lib.deBruijn64tab W := by
 have h2:=h.tail;rw[aFe] at h2;have h3:=Lib.tabIs_of_head Tryz.gtab64 (by kernel_rfl) Tryz.underlying194 Tryz.underlying5 (by kernel_rfl) (by kernel_rfl) h2;intro j hj;have:=h3.cell Tryz.gtab64 j (by simpa using hj);rw[this];simp[hj]
theorem aB3 (h:laidMetH Tryz.prog aA3 W):TabAt 1 Lib.deBruijn64tab W:=Sd h
noncomputable def laidWorld2 (os:Os):World :=
 { World.holding Tryz.prog os ⟨#[],#[],[]⟩ with heap:=((World.holding Tryz.prog os ⟨#[],#[],[]⟩).heap.modify 0 (Sc (Lib.deBruijn32tab.map fun n:Nat=>Value.int .u8 n).toArray)).modify 1 (Sc (Lib.deBruijn64tab.map fun n:Nat=>Value.int .u8 n).toArray) }
end Go.Proofs.YtkdndfbfmchcpaaGreatDoor
