/- Premises that list the library's tables; worlds that meet them. Premises that list the library's tables and two of its errors; worlds that meet them. -/
import Derived.Test.YtmmgkdcojkmlcaaGreatDoorEndsD
import Derived.Shelf.Spec.TrailingZeros
import Derived.Lib.TrailingZeros
import Derived.Lib.LaidTab
import Derived.Stop.LaidErr
import Derived.Test.YtmmgkdcojkmlcaaGreatDoorLFAH
import Derived.LaidLaws
namespace Go.Proofs.YtmmgkdcojkmlcaaGreatDoor
open Go.ChangeShapes Go.WideShapes Go.RowKit Go.Shelf

/-- a block whose cells are these -/
def cellsSet (cs : Array Value) (o : Obj) : Obj := match o with
  | .cells _ t frozen => .cells cs t frozen
  | o => o

end Go.Proofs.YtmmgkdcojkmlcaaGreatDoor

namespace Go.Proofs.YtmmgkdcojkmlcaaGreatDoor
open Go.ChangeShapes Go.WideShapes Go.RowKit Go.Shelf

def laidTabs6 : List (String × DataW Unit) := [("math/bits.deBruijn32tab", Rows.laid_math_bits_deBruijn32tab), ("math/bits.deBruijn64tab", Rows.laid_math_bits_deBruijn64tab), ("internal/strconv.uint64pow10", Rows.laid_internal_strconv_uint64pow10), ("errors.errorType", Rows.laid_errors_errorType), ("strconv.ErrRange", Rows.laid_strconv_ErrRange), ("strconv.ErrSyntax", Rows.laid_strconv_ErrSyntax)]

theorem Tryz.ger : Tryz.prog.globalNamed "strconv.ErrRange" = some 3 := by kernel_rfl
theorem Tryz.gert : (Tryz.prog.globals[3]?).map (·.type) = some 31 := by kernel_rfl
theorem starEr : "*" ++ "errors.errorString" = "*errors.errorString" := by decide
theorem Tryz.rowEr (u : TypeId) (h : Tryz.prog.typeName? 3 u = some "*errors.errorString") : u = 225 :=
  typeName_ptr_named (nm := "errors.errorString") (by rw [starEr]; kernel_rfl) (by kernel_rfl) (by decide) u (by rw [starEr]; exact h)
theorem ev_of_laid {W : World} (h : laidMet Tryz.prog [("strconv.ErrRange", Rows.laid_strconv_ErrRange), ("strconv.ErrSyntax", Rows.laid_strconv_ErrSyntax)] W) : EvW W := by
  obtain ⟨a, s, hv, _⟩ := laid_sentinel h Tryz.ger Tryz.gert Tryz.underlying31 Tryz.rowEr Tryz.underlying225 Tryz.underlying227 rfl rfl Tryz.underlying9 (by kernel_rfl) (by kernel_rfl)
  have hc := World.var?_cell Tryz.ger hv 0
  have hc2 : W.cell? ⟨3, 0, none⟩ = some (.iface 225 (.pointer (some a))) := by simpa using hc
  exact ⟨World.block_lt_of_cell? _ _ hc2, _, hc2, Or.inr ⟨_, _, rfl⟩⟩
theorem of_tabs6 {W : World} (h : laidMetH Tryz.prog laidTabs6 W) : Laid W ∧ EvW W := by
  have h' : laidMet Tryz.prog [("math/bits.deBruijn32tab", Rows.laid_math_bits_deBruijn32tab), ("math/bits.deBruijn64tab", Rows.laid_math_bits_deBruijn64tab), ("internal/strconv.uint64pow10", Rows.laid_internal_strconv_uint64pow10), ("strconv.ErrRange", Rows.laid_strconv_ErrRange), ("strconv.ErrSyntax", Rows.laid_strconv_ErrSyntax)] W ∧ handlesMet Tryz.prog laidList W := h
  exact ⟨handle_of_laid (show laidMetH Tryz.prog laidList W from ⟨laidMet_nil _ _, h'.2⟩), ev_of_laid h'.1.tail.tail.tail⟩

abbrev rngS : ByteArray := { data := #[118, 97, 108, 117, 101, 32, 111, 117, 116, 32, 111, 102, 32, 114, 97, 110, 103, 101] }
abbrev synS : ByteArray := { data := #[105, 110, 118, 97, 108, 105, 100, 32, 115, 121, 110, 116, 97, 120] }
noncomputable def low6 : Nat := (World.holding Tryz.prog default ⟨#[], #[], []⟩).heap.size
def pow10L : List Nat := [1, 10, 100, 1000, 10000, 100000, 1000000, 10000000, 100000000, 1000000000, 10000000000, 100000000000, 1000000000000, 10000000000000, 100000000000000, 1000000000000000, 10000000000000000, 100000000000000000, 1000000000000000000, 10000000000000000000]
noncomputable def laidWorld6 (os : Os) : World :=
  let w0 := World.holding Tryz.prog os ⟨#[.cells #[.string rngS] 227, .cells #[.string synS] 227], #[], []⟩
  { w0 with heap := (((((w0.heap.modify 0 (cellsSet #[.iface 158 (.agg #[.pointer (some ⟨7, 31, none⟩)])])).modify 5 (cellsSet (Lib.deBruijn32tab.map fun n : Nat => Value.int .u8 n).toArray)).modify 6 (cellsSet (Lib.deBruijn64tab.map fun n : Nat => Value.int .u8 n).toArray)).modify 4 (cellsSet (pow10L.map fun n : Nat => Value.int .u64 n).toArray)).modify 3 (cellsSet #[.iface 225 (.pointer (some ⟨low6, 0, none⟩))])).modify 2 (cellsSet #[.iface 225 (.pointer (some ⟨low6 + 1, 0, none⟩))]) }

end Go.Proofs.YtmmgkdcojkmlcaaGreatDoor
