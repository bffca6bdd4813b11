/- Arguments that are texts, opened. The premise of SourceAgain: the library's tables and two of its errors; a world that meets them. -/
import Derived.Test.YthpkcageimhgaaaDoorEnds
import Derived.ChangeMaps5
import Derived.Test.YthpkcageimhgaaaDoorSqAU
import Derived.Test.YthpkcageimhgaaaDoorSqAL
import Derived.Lib.TrailingZeros
import Derived.Lib.LaidTab
import Derived.Stop.LaidErr
import Derived.LaidLaws
namespace Go.Proofs.YthpkcageimhgaaaDoor
open Go.ChangeShapes Go.WideShapes Go.RowKit

theorem reach_text {H : Type} {ts : List TypeId} {ds : List (DataW H)} {j : Nat} {s : ByteArray} (hsz : (DataW.weightsEach Tryd.prog ts ds).all (· ≤ reachBytes) = true) (ht : ts[j]? = some 9) (hd : ds[j]? = some (.lit (.string s.data.toList))) : s.size ≤ 281474976710656 := by
  have h := List.all_eq_true.1 hsz s.data.toList.length (DataW.weights_mem_each ht hd _ (by simp [DataW.weights]))
  have h2 : s.data.toList.length ≤ reachBytes := by simpa using h
  have h3 : s.data.toList.length = s.size := by rw [Array.length_toList]; rfl
  unfold reachBytes at h2
  omega

end Go.Proofs.YthpkcageimhgaaaDoor

namespace Go.Proofs.YthpkcageimhgaaaDoor
open Go.ChangeShapes Go.WideShapes Go.RowKit Go.Shelf

def cellsG (cs : Array Value) (o : Obj) : Obj := match o with
  | .cells _ t frozen => .cells cs t frozen
  | o => o
def laidTabsG : List (String × DataW Unit) := [("math/bits.deBruijn32tab", Rows.laid_math_bits_deBruijn32tab), ("math/bits.deBruijn64tab", Rows.laid_math_bits_deBruijn64tab), ("internal/strconv.uint64pow10", Rows.laid_internal_strconv_uint64pow10), ("strconv.ErrRange", Rows.laid_strconv_ErrRange), ("strconv.ErrSyntax", Rows.laid_strconv_ErrSyntax)]
theorem Tryd.gerG : Tryd.prog.globalNamed "strconv.ErrRange" = some 5 := by kernel_rfl
theorem Tryd.gertG : (Tryd.prog.globals[5]?).map (·.type) = some 24 := by kernel_rfl
theorem starG : "*" ++ "errors.errorString" = "*errors.errorString" := by decide
theorem Tryd.rowG (u : TypeId) (h : Tryd.prog.typeName? 3 u = some "*errors.errorString") : u = 144 :=
  typeName_ptr_named (nm := "errors.errorString") (by rw [starG]; kernel_rfl) (by kernel_rfl) (by decide) u (by rw [starG]; exact h)
theorem ev_of_laidG {W : World} (h : laidMet Tryd.prog [("strconv.ErrRange", Rows.laid_strconv_ErrRange), ("strconv.ErrSyntax", Rows.laid_strconv_ErrSyntax)] W) : EvW W := by
  obtain ⟨a, s, hv, _⟩ := laid_sentinel h Tryd.gerG Tryd.gertG Tryd.underlying24 Tryd.rowG Tryd.underlying144 Tryd.underlying146 rfl rfl Tryd.underlying9 (by kernel_rfl) (by kernel_rfl)
  have hc := World.var?_cell Tryd.gerG hv 0
  have hc2 : W.cell? ⟨5, 0, none⟩ = some (.iface 144 (.pointer (some a))) := by simpa using hc
  exact ⟨World.block_lt_of_cell? _ _ hc2, _, hc2, Or.inr ⟨_, _, rfl⟩⟩
theorem tabdG : (Rows.laid_internal_strconv_uint64pow10 : DataW Unit) = Lib.tabData .u64 Lib.pow10Tab := by kernel_rfl
theorem pow_of_laidG {W : World} {rest : List (String × DataW Unit)} (h : laidMet Tryd.prog (("internal/strconv.uint64pow10", Rows.laid_internal_strconv_uint64pow10) :: rest) W) : PowW W := by
  rw [tabdG] at h
  exact Lib.tabIs_of_head Tryd.gpow (by kernel_rfl) Tryd.underlying121 Tryd.underlying114 (by kernel_rfl) (by kernel_rfl) h
theorem of_tabsG {W : World} (h : laidMetH Tryd.prog laidTabsG W) : EvW W ∧ PowW W := by
  have h' : laidMet Tryd.prog laidTabsG W := h
  exact ⟨ev_of_laidG h'.tail.tail.tail, pow_of_laidG h'.tail.tail⟩

abbrev rngG : ByteArray := { data := #[118, 97, 108, 117, 101, 32, 111, 117, 116, 32, 111, 102, 32, 114, 97, 110, 103, 101] }
abbrev synG : ByteArray := { data := #[105, 110, 118, 97, 108, 105, 100, 32, 115, 121, 110, 116, 97, 120] }
noncomputable def lowG : Nat := (World.holding Tryd.prog default ⟨#[], #[], []⟩).heap.size
def powG : List Nat := [1, 10, 100, 1000, 10000, 100000, 1000000, 10000000, 100000000, 1000000000, 10000000000, 100000000000, 1000000000000, 10000000000000, 100000000000000, 1000000000000000, 10000000000000000, 100000000000000000, 1000000000000000000, 10000000000000000000]
noncomputable def laidWorldG (os : Os) : World :=
  let w0 := World.holding Tryd.prog os ⟨#[.cells #[.string rngG] 146, .cells #[.string synG] 146], #[], []⟩
  { w0 with heap := (((((w0.heap.modify 2 (cellsG (Lib.deBruijn32tab.map fun n : Nat => Value.int .u8 n).toArray)).modify 3 (cellsG (Lib.deBruijn64tab.map fun n : Nat => Value.int .u8 n).toArray)).modify 1 (cellsG (powG.map fun n : Nat => Value.int .u64 n).toArray)).modify 5 (cellsG #[.iface 144 (.pointer (some ⟨lowG, 0, none⟩))])).modify 4 (cellsG #[.iface 144 (.pointer (some ⟨lowG + 1, 0, none⟩))])) }

end Go.Proofs.YthpkcageimhgaaaDoor
