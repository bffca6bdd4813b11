/- Package machine: walked. Package machine: ascending, what is collected. Package machine: ascending. Package machine: slices.SortFunc at cells. Package machine: slices.SortFunc at cells, whole. Package rules: how pairs are sorted. -/
import Derived.Test.YtaibngnabhmabajDoorBbAV
import Derived.Maps.RangeWalk
import Derived.Shelf.SlSortCmp.WholeK
import Derived.Lib.Small
import Derived.Test.YtaibngnabhmabajDoorBbAQ
import Derived.Shelf.SlSortCmp.NoneTotal
import Derived.Test.YtaibngnabhmabajDoorBbAH
import Derived.StillTailTactics
namespace Go.Proofs.YtaibngnabhmabajDoor
open Go.RowKit Go.Maps

end Go.Proofs.YtaibngnabhmabajDoor

namespace Go.Proofs.YtaibngnabhmabajDoor
open Go.RowKit Go.Maps

end Go.Proofs.YtaibngnabhmabajDoor

namespace Go.Proofs.YtaibngnabhmabajDoor
open Go.RowKit Go.Maps

end Go.Proofs.YtaibngnabhmabajDoor

namespace Go.Proofs.YtaibngnabhmabajDoor
open Go.RowKit Go.Maps

end Go.Proofs.YtaibngnabhmabajDoor

namespace Go.Proofs.YtaibngnabhmabajDoor
open Go.RowKit Go.Maps

def cf2 (x y : Int × Int) : Int := Lib.compareInt x.1 y.1
theorem lt2 (x y : Int × Int) : ltOf cf2 x y = decide (x.1 < y.1) := by
  unfold ltOf cf2 Lib.compareInt
  by_cases h1 : x.1 < y.1
  · simp [h1]
  · by_cases h2 : y.1 < x.1 <;> simp [h1, h2]
end Go.Proofs.YtaibngnabhmabajDoor

namespace Go.Proofs.YtaibngnabhmabajDoor
open Go.RowKit Go.Maps

/-- the order of pairs -/
def cf3 (x y : Int × Int) : Int := if Lib.compareInt x.1 y.1 ≠ 0 then Lib.compareInt x.1 y.1 else Lib.compareInt x.2 y.2
theorem cmpi_cases (x y : Int) : (x < y ∧ Lib.compareInt x y = -1) ∨ (x = y ∧ Lib.compareInt x y = 0) ∨ (y < x ∧ Lib.compareInt x y = 1) := by
  unfold Lib.compareInt
  by_cases h1 : x < y
  · simp [h1]
  · by_cases h2 : y < x
    · simp [h1, h2]
    · have : x = y := by omega
      simp [this]
theorem lt3 (x y : Int × Int) : ltOf cf3 x y = !decide (cle y x) := by
  have h1 := cmpi_cases x.1 y.1
  have h2 := cmpi_cases x.2 y.2
  have e : ltOf cf3 x y = decide (cf3 x y < 0) := rfl
  rw [e]
  unfold cf3 cle
  rcases h1 with ⟨a, b⟩ | ⟨a, b⟩ | ⟨a, b⟩
  · rw [b]
    have : ¬ (y.1 < x.1 ∨ y.1 = x.1 ∧ y.2 ≤ x.2) := by omega
    simp [this]
  · rw [b]
    rcases h2 with ⟨c, d⟩ | ⟨c, d⟩ | ⟨c, d⟩
    · rw [d]
      have : ¬ (y.1 < x.1 ∨ y.1 = x.1 ∧ y.2 ≤ x.2) := by omega
      simp [this]
    · rw [d]
      have : (y.1 < x.1 ∨ y.1 = x.1 ∧ y.2 ≤ x.2) := by omega
      simp [this]
    · rw [d]
      have : (y.1 < x.1 ∨ y.1 = x.1 ∧ y.2 ≤ x.2) := by omega
      simp [this]
  · rw [b]
    have : (y.1 < x.1 ∨ y.1 = x.1 ∧ y.2 ≤ x.2) := by omega
    simp [this]
end Go.Proofs.YtaibngnabhmabajDoor
