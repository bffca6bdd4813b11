/- attestref2: Point, Pair, Fold. -/
import Derived.Test.YtgcjpddpolaofahGreatCods
import Derived.Test.YtgcjpddpolaofahGreatDoms
import Derived.Test.YtgcjpddpolaofahGreatRefs
import Derived.Test.YtgcjpddpolaofahGreatTres
import Derived.Deep.RegionHeld3
namespace Go.Proofs.YtgcjpddpolaofahGreat
open Go.RowKit Pol

theorem four0 {W : World} {g : Nat} {a b c d : Value} {t : TypeId} (h : W.heap[g]? = some (.cells #[a, b, c, d] t (0, 0))) : W.cell? ⟨g, 0, none⟩ = some a := by simp [World.cell?, h]
theorem four1 {W : World} {g : Nat} {a b c d : Value} {t : TypeId} (h : W.heap[g]? = some (.cells #[a, b, c, d] t (0, 0))) : W.cell? ⟨g, 1, none⟩ = some b := by simp [World.cell?, h]
theorem four2 {W : World} {g : Nat} {a b c d : Value} {t : TypeId} (h : W.heap[g]? = some (.cells #[a, b, c, d] t (0, 0))) : W.cell? ⟨g, 2, none⟩ = some c := by simp [World.cell?, h]
theorem four3 {W : World} {g : Nat} {a b c d : Value} {t : TypeId} (h : W.heap[g]? = some (.cells #[a, b, c, d] t (0, 0))) : W.cell? ⟨g, 3, none⟩ = some d := by simp [World.cell?, h]

end Go.Proofs.YtgcjpddpolaofahGreat
