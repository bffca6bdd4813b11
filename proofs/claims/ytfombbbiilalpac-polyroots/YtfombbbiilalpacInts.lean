/- attestsame.Ints: whether two lists of numbers are the same, for every two lists that can be read; nothing turns. -/
import Derived.Test.YtfombbbiilalpacWalkA
import Derived.Deep.QuietTactic
import Derived.BigQuiet
import Derived.WalkSmall
namespace Go.Proofs.Ytfombbbiilalpac
open Go.RowKit

/-- a list of numbers that can be read -/
def RowZ (w : World) (v : Value) (xs : List Int) : Prop :=
  ∃ a cap, v = .slice a xs.length cap ∧ ∀ k, k < xs.length → ∃ b o, a = some ⟨b, o, none⟩ ∧ w.cell? ⟨b, o + k, none⟩ = some (.int .i64 (xs.getD k 0))

theorem take_eq_succ {xs ys : List Int} {k : Nat} (hx : k < xs.length) (hy : k < ys.length) (h : xs.take k = ys.take k) (hk : xs.getD k 0 = ys.getD k 0) : xs.take (k + 1) = ys.take (k + 1) := by
  rw [List.take_succ_eq_append_getElem hx, List.take_succ_eq_append_getElem hy, h]
  have : xs[k] = ys[k] := by simpa [hx, hy] using hk
  rw [this]

end Go.Proofs.Ytfombbbiilalpac
