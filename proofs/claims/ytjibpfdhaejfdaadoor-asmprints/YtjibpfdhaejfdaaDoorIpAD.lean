/- Premises that list the library's tables; worlds that meet them. The premise of AsmPrints: the library's tables, errors.errorType and package asm's own table of forms; a world that meets them. -/
import Derived.Test.YtjibpfdhaejfdaaDoorEndsD
import Derived.Shelf.Spec.TrailingZeros
import Derived.Lib.TrailingZeros
import Derived.Lib.LaidTab
import Derived.Stop.LaidErr
import Derived.Test.YtjibpfdhaejfdaaDoorAqD
import Derived.ChangeArms
import Derived.OpenShut
import Derived.LaidLaws
namespace Go.Proofs.YtjibpfdhaejfdaaDoor
open Go.ChangeShapes Go.WideShapes Go.RowKit Go.Shelf

/-- a block whose cells are these -/
def cellsSet (cs : Array Value) (o : Obj) : Obj := match o with
  | .cells _ t frozen => .cells cs t frozen
  | o => o

end Go.Proofs.YtjibpfdhaejfdaaDoor

namespace Go.Proofs.YtjibpfdhaejfdaaDoor
open Go.ChangeShapes Go.WideShapes Go.RowKit Go.Shelf

def laidTabsA : List (String × DataW Unit) := [("math/bits.deBruijn32tab", Rows.laid_math_bits_deBruijn32tab), ("math/bits.deBruijn64tab", Rows.laid_math_bits_deBruijn64tab), ("internal/strconv.uint64pow10", Rows.laid_internal_strconv_uint64pow10), ("errors.errorType", Rows.laid_errors_errorType), ("attest/asm.forms", Rows.laid_attest_asm_forms)]

/-- a form as it is laid -/
def fDat (k : Nat) : DataW Unit := .agg [.lit (.string (fWd k)), .agg [.lit (.int .i64 (fSl k 0 : Nat)), .lit (.int .i64 (fSl k 1 : Nat)), .lit (.int .i64 (fSl k 2 : Nat))]]
theorem fdat_is : (Rows.laid_attest_asm_forms : DataW Unit) = .agg ((List.range 14).map fDat) := by kernel_rfl
theorem Tryd.gforms : Tryd.prog.globalNamed "attest/asm.forms" = some 0 := by kernel_rfl
theorem Tryd.gformt : (Tryd.prog.globals[0]?).map (·.type) = some 50 := by kernel_rfl
theorem list4A {α : Type} {l : List α} (h : l.length = 4) : ∃ a b c d, l = [a, b, c, d] := by
  match l, h with
  | [a, b, c, d], _ => exact ⟨a, b, c, d, rfl⟩
set_option maxRecDepth 100000 in
theorem form_cells {W : World} {fuel k : Nat} {cs : List Value} {p : List MemPlace} {sp : Nat → Bool} {held : Bool} {enc : TypeId × Value → Unit} {base : Nat} (h : DataW.trod enc Tryd.prog W base sp held fuel 49 cs = some (fDat k, p)) : cs = [.string (bs (fWd k)), .int .i64 (fSl k 0 : Nat), .int .i64 (fSl k 1 : Nat), .int .i64 (fSl k 2 : Nat)] := by
  obtain ⟨xs, n, rfl, hx, hcl, hxl, hat⟩ := DataW.trod_struct Tryd.underlying49 h
  have hc4 : Tryd.prog.cellsOf 49 = 4 := by kernel_rfl
  have hcs : Tryd.prog.cellsOf 9 = 1 := by kernel_rfl
  have hc3 : Tryd.prog.cellsOf 47 = 3 := by kernel_rfl
  have hc1 : Tryd.prog.cellsOf 46 = 1 := by kernel_rfl
  rw [hc4] at hcl
  obtain ⟨a, b, c, d, rfl⟩ := list4A hcl
  have h0 : DataW.trod enc Tryd.prog W base sp held n 9 (([a, b, c, d].drop 0).take (Tryd.prog.cellsOf 9)) = xs[0]? := hat 0 _ rfl
  have h1 : DataW.trod enc Tryd.prog W base sp held n 47 (([a, b, c, d].drop 1).take (Tryd.prog.cellsOf 47)) = xs[1]? := hat 1 _ rfl
  rw [hcs] at h0
  rw [hc3] at h1
  have hm : xs.map (·.1) = [.lit (.string (fWd k)), .agg [.lit (.int .i64 (fSl k 0 : Nat)), .lit (.int .i64 (fSl k 1 : Nat)), .lit (.int .i64 (fSl k 2 : Nat))]] := (DataW.agg.inj (congrArg Prod.fst hx)).symm
  match xs, hm with
  | [x0, x1], hm =>
    have e0 : x0.1 = .lit (.string (fWd k)) := by injection hm
    have e1 : x1.1 = .agg [.lit (.int .i64 (fSl k 0 : Nat)), .lit (.int .i64 (fSl k 1 : Nat)), .lit (.int .i64 (fSl k 2 : Nat))] := by
      injection hm with _ hm
      injection hm
    obtain ⟨S, hS, hS2, _⟩ := DataW.trod_string Tryd.underlying9 (show DataW.trod enc Tryd.prog W base sp held n 9 [a] = some x0 from h0)
    obtain rfl : a = .string S := by injection hS
    have hS3 : S = bs (fWd k) := by
      rw [hS2] at e0
      injection e0 with e0
      injection e0 with e0
      rw [← e0]
      exact (bs_of S).symm
    obtain ⟨ys, m, rfl, hy, _, hyl, hyat⟩ := DataW.trod_array Tryd.underlying47 (show DataW.trod enc Tryd.prog W base sp held n 47 [b, c, d] = some x1 from h1)
    rw [hc1] at hyat
    have hym : ys.map (·.1) = [.lit (.int .i64 (fSl k 0 : Nat)), .lit (.int .i64 (fSl k 1 : Nat)), .lit (.int .i64 (fSl k 2 : Nat))] := by
      rw [hy] at e1
      exact DataW.agg.inj e1
    match ys, hym with
    | [y0, y1, y2], hym =>
      have f0 : y0.1 = .lit (.int .i64 (fSl k 0 : Nat)) := by injection hym
      have f1 : y1.1 = .lit (.int .i64 (fSl k 1 : Nat)) := by injection hym with _ hym; injection hym
      have f2 : y2.1 = .lit (.int .i64 (fSl k 2 : Nat)) := by injection hym with _ hym; injection hym with _ hym; injection hym
      obtain ⟨z0, g0, q0, _⟩ := DataW.trod_int Tryd.underlying46 (show DataW.trod enc Tryd.prog W base sp held m 46 [b] = some y0 from hyat 0 (by omega))
      obtain ⟨z1, g1, q1, _⟩ := DataW.trod_int Tryd.underlying46 (show DataW.trod enc Tryd.prog W base sp held m 46 [c] = some y1 from hyat 1 (by omega))
      obtain ⟨z2, g2, q2, _⟩ := DataW.trod_int Tryd.underlying46 (show DataW.trod enc Tryd.prog W base sp held m 46 [d] = some y2 from hyat 2 (by omega))
      rw [q0] at f0
      rw [q1] at f1
      rw [q2] at f2
      injection f0 with f0
      injection f1 with f1
      injection f2 with f2
      injection f0 with _ f0
      injection f1 with _ f1
      injection f2 with _ f2
      injection g0 with g0
      injection g1 with g1
      injection g2 with g2
      rw [g0, g1, g2, f0, f1, f2, hS3]
set_option maxRecDepth 100000 in
theorem forms_of_laid {W : World} {rest : List (String × DataW Unit)} (h : laidMet Tryd.prog (("attest/asm.forms", Rows.laid_attest_asm_forms) :: rest) W) : FmW W := by
  rw [fdat_is] at h
  obtain ⟨ps, ⟨g', t', cs, fuel, p, q, hg', ht', hvar, hd, _, _⟩, _⟩ := h
  obtain rfl := Option.some.inj (Tryd.gforms.symm.trans hg')
  obtain rfl := Option.some.inj (Tryd.gformt.symm.trans ht')
  obtain ⟨xs, m, rfl, hx, hcl, hxl, hat⟩ := DataW.trod_array Tryd.underlying50 hd
  have hc4 : Tryd.prog.cellsOf 49 = 4 := by kernel_rfl
  rw [hc4] at hat
  have hm : xs.map (·.1) = (List.range 14).map fDat := by
    exact (DataW.agg.inj (congrArg Prod.fst hx)).symm
  have hcell : ∀ k, k < 14 → (cs.toList.drop (k * 4)).take 4 = [.string (bs (fWd k)), .int .i64 (fSl k 0 : Nat), .int .i64 (fSl k 1 : Nat), .int .i64 (fSl k 2 : Nat)] := fun k hk => by
    have h1 := hat k hk
    have hkx : k < xs.length := by omega
    rw [List.getElem?_eq_getElem hkx] at h1
    have h2 : xs[k].1 = fDat k := by
      have := congrArg (·[k]?) hm
      simpa [hkx, hk] using this
    rw [show xs[k] = (fDat k, xs[k].2) from by rw [← h2]] at h1
    exact form_cells h1
  have hc : ∀ k j, k < 14 → j < 4 → W.cell? ⟨0, k * 4 + j, none⟩ = [Value.string (bs (fWd k)), .int .i64 (fSl k 0 : Nat), .int .i64 (fSl k 1 : Nat), .int .i64 (fSl k 2 : Nat)][j]? := fun k j hk hj => by
    rw [← hcell k hk, List.getElem?_take, if_pos hj, List.getElem?_drop, Array.getElem?_toList]
    exact World.var?_cell Tryd.gforms hvar (k * 4 + j)
  have w0 := hc 0 0 (by omega) (by omega)
  exact ⟨World.block_lt_of_cell? _ _ w0, fun k hk => hc k 0 hk (by omega), fun k hk => hc k 1 hk (by omega), fun k hk => hc k 2 hk (by omega), fun k hk => hc k 3 hk (by omega)⟩
theorem tabdpA : (Rows.laid_internal_strconv_uint64pow10 : DataW Unit) = Lib.tabData .u64 Lib.pow10Tab := by kernel_rfl
theorem powA_of_laid {W : World} {rest : List (String × DataW Unit)} (h : laidMet Tryd.prog (("internal/strconv.uint64pow10", Rows.laid_internal_strconv_uint64pow10) :: rest) W) : PowA W := by
  rw [tabdpA] at h
  exact Lib.tabIs_of_head Tryd.gpowA (by kernel_rfl) Tryd.underlying104 Tryd.underlying97 (by kernel_rfl) (by kernel_rfl) h
theorem of_tabsA {W : World} (h : laidMetH Tryd.prog laidTabsA W) : Laid W ∧ PowA W ∧ FmW W := by
  have h' : laidMet Tryd.prog [("math/bits.deBruijn32tab", Rows.laid_math_bits_deBruijn32tab), ("math/bits.deBruijn64tab", Rows.laid_math_bits_deBruijn64tab), ("internal/strconv.uint64pow10", Rows.laid_internal_strconv_uint64pow10), ("attest/asm.forms", Rows.laid_attest_asm_forms)] W ∧ handlesMet Tryd.prog laidList W := h
  exact ⟨handle_of_laid (show laidMetH Tryd.prog laidList W from ⟨laidMet_nil _ _, h'.2⟩), powA_of_laid h'.1.tail.tail, forms_of_laid h'.1.tail.tail.tail⟩

def pow10LA : List Nat := [1, 10, 100, 1000, 10000, 100000, 1000000, 10000000, 100000000, 1000000000, 10000000000, 100000000000, 1000000000000, 10000000000000, 100000000000000, 1000000000000000, 10000000000000000, 100000000000000000, 1000000000000000000, 10000000000000000000]
def formsLA : List Value := (List.range 14).flatMap fun k => [.string (bs (fWd k)), .int .i64 (fSl k 0 : Nat), .int .i64 (fSl k 1 : Nat), .int .i64 (fSl k 2 : Nat)]
noncomputable def laidWorldA (os : Os) : World :=
  { World.holding Tryd.prog os ⟨#[], #[], []⟩ with heap := (((((World.holding Tryd.prog os ⟨#[], #[], []⟩).heap.modify 1 (cellsSet #[.iface 83 (.agg #[.pointer (some ⟨5, 26, none⟩)])])).modify 3 (cellsSet (Lib.deBruijn32tab.map fun n : Nat => Value.int .u8 n).toArray)).modify 4 (cellsSet (Lib.deBruijn64tab.map fun n : Nat => Value.int .u8 n).toArray)).modify 2 (cellsSet (pow10LA.map fun n : Nat => Value.int .u64 n).toArray)).modify 0 (cellsSet formsLA.toArray) }

end Go.Proofs.YtjibpfdhaejfdaaDoor
