/- Premises that list the library's tables; worlds that meet them. Premises that list the library's tables and two of its errors; worlds that meet them. Premises that list the library's tables and two of its errors: the table of powers of ten, too. -/
import Derived.Test.YthemehdcakimgaiGreatDoorEndsD
import Derived.Shelf.Spec.TrailingZeros
import Derived.Lib.TrailingZeros
import Derived.Lib.LaidTab
import Derived.Stop.LaidErr
import Derived.Test.YthemehdcakimgaiGreatDoorBgAR
import Derived.LaidLaws
import Derived.Test.YthemehdcakimgaiGreatDoorBgBH
namespace Go.Proofs.YthemehdcakimgaiGreatDoor
open Go.ChangeShapes Go.WideShapes Go.RowKit Go.Shelf

/-- a block whose cells are these -/
def cellsSet (cs : Array Value) (o : Obj) : Obj := match o with
  | .cells _ t frozen => .cells cs t frozen
  | o => o

def laidTabs2 : List (String × DataW Unit) := [("math/bits.deBruijn32tab", Rows.laid_math_bits_deBruijn32tab), ("math/bits.deBruijn64tab", Rows.laid_math_bits_deBruijn64tab)]
def laidTabs3 : List (String × DataW Unit) := [("math/bits.deBruijn32tab", Rows.laid_math_bits_deBruijn32tab), ("math/bits.deBruijn64tab", Rows.laid_math_bits_deBruijn64tab), ("errors.errorType", Rows.laid_errors_errorType)]

theorem tabd64 : (Rows.laid_math_bits_deBruijn64tab : DataW Unit) = Lib.tabData .u8 (Lib.deBruijn64tab.map fun n : Nat => (n : Int)) := by kernel_rfl
theorem Tryz.gtab64 : Tryz.prog.globalNamed "math/bits.deBruijn64tab" = some 4 := by kernel_rfl

theorem tab_of_data {W : World} (h : laidMet Tryz.prog [("math/bits.deBruijn32tab", Rows.laid_math_bits_deBruijn32tab), ("math/bits.deBruijn64tab", Rows.laid_math_bits_deBruijn64tab)] W) : TabAt 4 Lib.deBruijn64tab W := by
  have h2 := h.tail
  rw [tabd64] at h2
  have h3 := Lib.tabIs_of_head Tryz.gtab64 (by kernel_rfl) Tryz.underlying189 Tryz.underlying5 (by kernel_rfl) (by kernel_rfl) h2
  intro j hj
  have := h3.cell Tryz.gtab64 j (by simpa using hj)
  rw [this]
  simp [hj]
theorem of_tabs2 {W : World} (h : laidMetH Tryz.prog laidTabs2 W) : TabAt 4 Lib.deBruijn64tab W := tab_of_data h
theorem of_tabs3 {W : World} (h : laidMetH Tryz.prog laidTabs3 W) : Laid W ∧ TabAt 4 Lib.deBruijn64tab W := by
  have h' : laidMet Tryz.prog [("math/bits.deBruijn32tab", Rows.laid_math_bits_deBruijn32tab), ("math/bits.deBruijn64tab", Rows.laid_math_bits_deBruijn64tab)] W ∧ handlesMet Tryz.prog laidList W := h
  exact ⟨handle_of_laid (show laidMetH Tryz.prog laidList W from ⟨laidMet_nil _ _, h'.2⟩), tab_of_data h'.1⟩

noncomputable def laidWorld2 (os : Os) : World :=
  { World.holding Tryz.prog os ⟨#[], #[], []⟩ with heap := ((World.holding Tryz.prog os ⟨#[], #[], []⟩).heap.modify 3 (cellsSet (Lib.deBruijn32tab.map fun n : Nat => Value.int .u8 n).toArray)).modify 4 (cellsSet (Lib.deBruijn64tab.map fun n : Nat => Value.int .u8 n).toArray) }
noncomputable def laidWorld3 (os : Os) : World :=
  { World.holding Tryz.prog os ⟨#[], #[], []⟩ with heap := (((World.holding Tryz.prog os ⟨#[], #[], []⟩).heap.modify 0 (cellsSet #[.iface 147 (.agg #[.pointer (some ⟨7, 24, none⟩)])])).modify 3 (cellsSet (Lib.deBruijn32tab.map fun n : Nat => Value.int .u8 n).toArray)).modify 4 (cellsSet (Lib.deBruijn64tab.map fun n : Nat => Value.int .u8 n).toArray) }

end Go.Proofs.YthemehdcakimgaiGreatDoor

namespace Go.Proofs.YthemehdcakimgaiGreatDoor
open Go.ChangeShapes Go.WideShapes Go.RowKit Go.Shelf

def laidTabs6 : List (String × DataW Unit) := [("math/bits.deBruijn32tab", Rows.laid_math_bits_deBruijn32tab), ("math/bits.deBruijn64tab", Rows.laid_math_bits_deBruijn64tab), ("internal/strconv.uint64pow10", Rows.laid_internal_strconv_uint64pow10), ("errors.errorType", Rows.laid_errors_errorType), ("strconv.ErrRange", Rows.laid_strconv_ErrRange), ("strconv.ErrSyntax", Rows.laid_strconv_ErrSyntax)]

theorem Tryz.ger : Tryz.prog.globalNamed "strconv.ErrRange" = some 6 := by kernel_rfl
theorem Tryz.gert : (Tryz.prog.globals[6]?).map (·.type) = some 24 := by kernel_rfl
theorem starEr : "*" ++ "errors.errorString" = "*errors.errorString" := by decide
theorem Tryz.rowEr (u : TypeId) (h : Tryz.prog.typeName? 3 u = some "*errors.errorString") : u = 203 :=
  typeName_ptr_named (nm := "errors.errorString") (by rw [starEr]; kernel_rfl) (by kernel_rfl) (by decide) u (by rw [starEr]; exact h)
theorem ev_of_laid {W : World} (h : laidMet Tryz.prog [("strconv.ErrRange", Rows.laid_strconv_ErrRange), ("strconv.ErrSyntax", Rows.laid_strconv_ErrSyntax)] W) : EvW W := by
  obtain ⟨a, s, hv, _⟩ := laid_sentinel h Tryz.ger Tryz.gert Tryz.underlying24 Tryz.rowEr Tryz.underlying203 Tryz.underlying205 rfl rfl Tryz.underlying9 (by kernel_rfl) (by kernel_rfl)
  have hc := World.var?_cell Tryz.ger hv 0
  have hc2 : W.cell? ⟨6, 0, none⟩ = some (.iface 203 (.pointer (some a))) := by simpa using hc
  exact ⟨World.block_lt_of_cell? _ _ hc2, _, hc2, Or.inr ⟨_, _, rfl⟩⟩
theorem of_tabs6 {W : World} (h : laidMetH Tryz.prog laidTabs6 W) : Laid W ∧ EvW W := by
  have h' : laidMet Tryz.prog [("math/bits.deBruijn32tab", Rows.laid_math_bits_deBruijn32tab), ("math/bits.deBruijn64tab", Rows.laid_math_bits_deBruijn64tab), ("internal/strconv.uint64pow10", Rows.laid_internal_strconv_uint64pow10), ("strconv.ErrRange", Rows.laid_strconv_ErrRange), ("strconv.ErrSyntax", Rows.laid_strconv_ErrSyntax)] W ∧ handlesMet Tryz.prog laidList W := h
  exact ⟨handle_of_laid (show laidMetH Tryz.prog laidList W from ⟨laidMet_nil _ _, h'.2⟩), ev_of_laid h'.1.tail.tail.tail⟩

abbrev rngS : ByteArray := { data := #[118, 97, 108, 117, 101, 32, 111, 117, 116, 32, 111, 102, 32, 114, 97, 110, 103, 101] }
abbrev synS : ByteArray := { data := #[105, 110, 118, 97, 108, 105, 100, 32, 115, 121, 110, 116, 97, 120] }
noncomputable def low6 : Nat := (World.holding Tryz.prog default ⟨#[], #[], []⟩).heap.size
def pow10L : List Nat := [1, 10, 100, 1000, 10000, 100000, 1000000, 10000000, 100000000, 1000000000, 10000000000, 100000000000, 1000000000000, 10000000000000, 100000000000000, 1000000000000000, 10000000000000000, 100000000000000000, 1000000000000000000, 10000000000000000000]
noncomputable def laidWorld6 (os : Os) : World :=
  let w0 := World.holding Tryz.prog os ⟨#[.cells #[.string rngS] 205, .cells #[.string synS] 205], #[], []⟩
  { w0 with heap := (((((w0.heap.modify 0 (cellsSet #[.iface 147 (.agg #[.pointer (some ⟨7, 24, none⟩)])])).modify 3 (cellsSet (Lib.deBruijn32tab.map fun n : Nat => Value.int .u8 n).toArray)).modify 4 (cellsSet (Lib.deBruijn64tab.map fun n : Nat => Value.int .u8 n).toArray)).modify 2 (cellsSet (pow10L.map fun n : Nat => Value.int .u64 n).toArray)).modify 6 (cellsSet #[.iface 203 (.pointer (some ⟨low6, 0, none⟩))])).modify 5 (cellsSet #[.iface 203 (.pointer (some ⟨low6 + 1, 0, none⟩))]) }

end Go.Proofs.YthemehdcakimgaiGreatDoor

namespace Go.Proofs.YthemehdcakimgaiGreatDoor
open Go.ChangeShapes Go.WideShapes Go.RowKit Go.Shelf

theorem tabdp10 : (Rows.laid_internal_strconv_uint64pow10 : DataW Unit) = Lib.tabData .u64 Lib.pow10Tab := by kernel_rfl
theorem pow_of_laid {W : World} {rest : List (String × DataW Unit)} (h : laidMet Tryz.prog (("internal/strconv.uint64pow10", Rows.laid_internal_strconv_uint64pow10) :: rest) W) : PowW W := by
  rw [tabdp10] at h
  exact Lib.tabIs_of_head Tryz.gpow (by kernel_rfl) Tryz.underlying180 Tryz.underlying173 (by kernel_rfl) (by kernel_rfl) h
theorem of_tabs6z {W : World} (h : laidMetH Tryz.prog laidTabs6 W) : (Laid W ∧ EvW W) ∧ PowW W := by
  refine ⟨of_tabs6 h, ?_⟩
  have h' : laidMet Tryz.prog [("math/bits.deBruijn32tab", Rows.laid_math_bits_deBruijn32tab), ("math/bits.deBruijn64tab", Rows.laid_math_bits_deBruijn64tab), ("internal/strconv.uint64pow10", Rows.laid_internal_strconv_uint64pow10), ("strconv.ErrRange", Rows.laid_strconv_ErrRange), ("strconv.ErrSyntax", Rows.laid_strconv_ErrSyntax)] W ∧ handlesMet Tryz.prog laidList W := h
  exact pow_of_laid h'.1.tail.tail

end Go.Proofs.YthemehdcakimgaiGreatDoor
