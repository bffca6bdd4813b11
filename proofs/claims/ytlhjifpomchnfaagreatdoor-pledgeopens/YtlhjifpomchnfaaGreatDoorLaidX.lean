
import Derived.Test.YtlhjifpomchnfaaGreatDoorEndsD
import Derived.Shelf.Spec.TrailingZeros
import Derived.Lib.TrailingZeros
import Derived.Lib.LaidTab
import Derived.Stop.LaidErr
set_option maxRecDepth 1000000
set_option maxHeartbeats 8000000
namespace Go.Proofs.YtlhjifpomchnfaaGreatDoor
open Go.ChangeShapes Go.WideShapes Go.RowKit Go.Shelf
def cellsSet (cs : Array Value) (o : Obj) : Obj := match o with
 | .cells _ t frozen => .cells cs t frozen
 | o => o
def laidTabs3 : List (String × DataW Unit) := [("math/bits.deBruijn32tab", Rows.laid_math_bits_deBruijn32tab), ("math/bits.deBruijn64tab", Rows.laid_math_bits_deBruijn64tab), ("errors.errorType", Rows.laid_errors_errorType)]
theorem tabd64 : (Rows.laid_math_bits_deBruijn64tab : DataW Unit) = Lib.tabData .u8 (Lib.deBruijn64tab.map fun n : Nat => (n : Int)) := by kernel_rfl
theorem Tryz.gtab64 : Tryz.prog.globalNamed "math/bits.deBruijn64tab" = some 2 := by kernel_rfl
theorem tab_of_data {W : World} (h : laidMet Tryz.prog [("math/bits.deBruijn32tab", Rows.laid_math_bits_deBruijn32tab), ("math/bits.deBruijn64tab", Rows.laid_math_bits_deBruijn64tab)] W) : TabAt 2 Lib.deBruijn64tab W := by
 have h2 := h.tail
 rw [tabd64] at h2
 have h3 := Lib.tabIs_of_head Tryz.gtab64 (by kernel_rfl) Tryz.underlying244 Tryz.underlying5 (by kernel_rfl) (by kernel_rfl) h2
 intro j hj
 have := h3.cell Tryz.gtab64 j (by simpa using hj)
 rw [this]
 simp [hj]
theorem of_tabs3 {W : World} (h : laidMetH Tryz.prog laidTabs3 W) : Laid W /\ TabAt 2 Lib.deBruijn64tab W := by
 have h' : laidMet Tryz.prog [("math/bits.deBruijn32tab", Rows.laid_math_bits_deBruijn32tab), ("math/bits.deBruijn64tab", Rows.laid_math_bits_deBruijn64tab)] W /\ handlesMet Tryz.prog laidList W := h
 exact ⟨handle_of_laid (show laidMetH Tryz.prog laidList W from ⟨laidMet_nil _ _, h'.2⟩), tab_of_data h'.1⟩
noncomputable def laidWorld3 (os : Os) : World :=
 { World.holding Tryz.prog os ⟨#[], #[], []⟩ with heap := (((World.holding Tryz.prog os ⟨#[], #[], []⟩).heap.modify 0 (cellsSet #[.iface 256 (.agg #[.pointer (some ⟨3, 35, none⟩)])])).modify 1 (cellsSet (Lib.deBruijn32tab.map fun n : Nat => Value.int .u8 n).toArray)).modify 2 (cellsSet (Lib.deBruijn64tab.map fun n : Nat => Value.int .u8 n).toArray) }
end Go.Proofs.YtlhjifpomchnfaaGreatDoor
