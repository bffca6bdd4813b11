/- Package tree: Check. slices.Sorted of slices.Values, slices.Compact: the places once each, ascending. Package rules: all cells of the steps that rows show, ascending, each once. Package rules: holes. Package rules: fillHoles. -/
import Derived.Test.YtfppkjpgihnibaaDoorWbtAZ
import Derived.Shelf.Slices.In.SortNone
import Derived.Lib.SlKeysI
import Derived.Test.YtfppkjpgihnibaaDoorWbtAW
namespace Go.Proofs.YtfppkjpgihnibaaDoor
open Go.RowKit

end Go.Proofs.YtfppkjpgihnibaaDoor

namespace Go.Proofs.YtfppkjpgihnibaaDoor
open Go.RowKit Go.Sort

/-! ## plain -/
end Go.Proofs.YtfppkjpgihnibaaDoor

namespace Go.Proofs.YtfppkjpgihnibaaDoor
open Go.RowKit Go.Sort

end Go.Proofs.YtfppkjpgihnibaaDoor

namespace Go.Proofs.YtfppkjpgihnibaaDoor
open Go.RowKit

theorem rows_ext {R S : List (List Int)} (h : R.length = S.length) (k : ∀ j, j < R.length → rat R j = rat S j) : R = S := by
  apply List.ext_getElem h
  intro j h1 h2
  have := k j h1
  simpa [rat, h1, h2] using this
/-- holes written into rows -/
def fillH (R : List (List Int)) (hs : List Int) : List (List Int) := (List.range R.length).map fun k => if k < hs.length then (rat R k).set 6 (zat hs k) else rat R k
theorem fillH_len (R : List (List Int)) (hs : List Int) : (fillH R hs).length = R.length := by simp [fillH]
theorem fillH_rat {R : List (List Int)} {hs : List Int} {k : Nat} (hk : k < R.length) : rat (fillH R hs) k = if k < hs.length then (rat R k).set 6 (zat hs k) else rat R k := by
  simp [fillH, rat, hk]
theorem fillH_row_len {R : List (List Int)} {hs : List Int} {k : Nat} (hk : k < R.length) : (rat (fillH R hs) k).length = (rat R k).length := by
  rw [fillH_rat hk]; split <;> simp
theorem fillH_more (R : List (List Int)) (hs : List Int) (x : Int) (h : hs.length < R.length) : put (fillH R hs) hs.length 6 x = fillH R (hs ++ [x]) := by
  have h' : hs.length < (fillH R hs).length := by rw [fillH_len]; exact h
  refine rows_ext (by rw [put_len, fillH_len, fillH_len]) fun j hj => ?_
  rw [put_len, fillH_len] at hj
  rw [put_rat h', fillH_rat hj, fillH_rat hj, fillH_rat h]
  by_cases e : j = hs.length
  · subst e
    rw [if_pos rfl, if_neg (by omega), if_pos (by simp)]
    congr 1
    simp [zat]
  · rw [if_neg e]
    by_cases e2 : j < hs.length
    · rw [if_pos e2, if_pos (by simp; omega)]
      congr 1
      simp [zat, List.getElem?_append_left e2]
    · rw [if_neg e2, if_neg (by simp; omega)]

end Go.Proofs.YtfppkjpgihnibaaDoor

namespace Go.Proofs.YtfppkjpgihnibaaDoor
open Go.RowKit

/-- what fillHoles has done: pre is written, rest is still to come -/
structure FhS (base G : Nat) (K : Nat → Nat) (R : List (List Int)) (hs pre rest : List Int) (w wr : World) : Prop where
  tbl : Tbl base G K wr (fillH R pre)
  all : hs = pre ++ rest
  few : pre.length ≤ R.length
  bel : Below base w wr
theorem FhS.put {base G : Nat} {K : Nat → Nat} {R : List (List Int)} {hs pre rest : List Int} {x : Int} {w wr : World} (h : FhS base G K R hs pre (x :: rest) w wr) (hk : pre.length < R.length) (h20 : 20 ≤ (rat R pre.length).length) : FhS base G K R hs (pre ++ [x]) rest w (wr.setCell ⟨K pre.length, 6, none⟩ (.int .i64 x)) := by
  have hk' : pre.length < (fillH R pre).length := by rw [fillH_len]; exact hk
  refine ⟨?_, by rw [h.all]; simp, by simp; omega, h.tbl.put_below h.bel (Nat.le_refl _) x hk'⟩
  rw [← fillH_more R pre x hk]
  exact h.tbl.put x hk' (by rw [fillH_row_len hk]; omega)
end Go.Proofs.YtfppkjpgihnibaaDoor
