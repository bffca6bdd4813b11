/- Package rules: how pairs are sorted. Package rules: the pairs of a row. Package rules: all pairs, sorted. Package rules: Alike; the reference's pairs. -/
import Derived.Test.YtfppkjpgihnibaaDoorWbtAU
import Derived.Test.YtfppkjpgihnibaaDoorWbtAH
import Derived.StillTailTactics
import Derived.Test.YtfppkjpgihnibaaDoorTres
import Derived.Test.YtfppkjpgihnibaaDoorWbtAI
import Derived.Maps.AppendAt
import Derived.Test.YtfppkjpgihnibaaDoorWbtAN
namespace Go.Proofs.YtfppkjpgihnibaaDoor
open Go.RowKit Go.Maps

/-- the order of pairs -/
def cf3 (x y : Int × Int) : Int := if Lib.compareInt x.1 y.1 ≠ 0 then Lib.compareInt x.1 y.1 else Lib.compareInt x.2 y.2
theorem cmpi_cases (x y : Int) : (x < y ∧ Lib.compareInt x y = -1) ∨ (x = y ∧ Lib.compareInt x y = 0) ∨ (y < x ∧ Lib.compareInt x y = 1) := by
  unfold Lib.compareInt
  by_cases h1 : x < y
  · simp [h1]
  · by_cases h2 : y < x
    · simp [h1, h2]
    · have : x = y := by omega
      simp [this]
theorem lt3 (x y : Int × Int) : ltOf cf3 x y = !decide (cle y x) := by
  have h1 := cmpi_cases x.1 y.1
  have h2 := cmpi_cases x.2 y.2
  have e : ltOf cf3 x y = decide (cf3 x y < 0) := rfl
  rw [e]
  unfold cf3 cle
  rcases h1 with ⟨a, b⟩ | ⟨a, b⟩ | ⟨a, b⟩
  · rw [b]
    have : ¬ (y.1 < x.1 ∨ y.1 = x.1 ∧ y.2 ≤ x.2) := by omega
    simp [this]
  · rw [b]
    rcases h2 with ⟨c, d⟩ | ⟨c, d⟩ | ⟨c, d⟩
    · rw [d]
      have : ¬ (y.1 < x.1 ∨ y.1 = x.1 ∧ y.2 ≤ x.2) := by omega
      simp [this]
    · rw [d]
      have : (y.1 < x.1 ∨ y.1 = x.1 ∧ y.2 ≤ x.2) := by omega
      simp [this]
    · rw [d]
      have : (y.1 < x.1 ∨ y.1 = x.1 ∧ y.2 ≤ x.2) := by omega
      simp [this]
  · rw [b]
    have : (y.1 < x.1 ∨ y.1 = x.1 ∧ y.2 ≤ x.2) := by omega
    simp [this]
end Go.Proofs.YtfppkjpgihnibaaDoor

namespace Go.Proofs.YtfppkjpgihnibaaDoor
open Go.RowKit

/-- the pairs of a row -/
def rw4 (r : List Int) (a v : Nat) : List (Int × Int) := (List.range 4).map fun j => (zat r (a + j), zat r (v + j))
end Go.Proofs.YtfppkjpgihnibaaDoor

namespace Go.Proofs.YtfppkjpgihnibaaDoor
open Go.RowKit

theorem CRow.grown {K : Nat} {w w' : World} {l : List (Int × Int)} {ob : Option Nat} (h : CRow K w l) (g : w.grownBy w' ob) (hne : some K ≠ ob) : CRow K w' l := h.block (g.block K h.lt hne)

end Go.Proofs.YtfppkjpgihnibaaDoor

namespace Go.Proofs.YtfppkjpgihnibaaDoor
open Go.RowKit

end Go.Proofs.YtfppkjpgihnibaaDoor
