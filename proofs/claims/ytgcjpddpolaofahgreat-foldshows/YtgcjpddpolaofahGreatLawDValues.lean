/- The law DomainValues answers true: what any polynomial is at all points of any domain. -/
import Derived.Test.YtgcjpddpolaofahGreatDoms
import Derived.Test.YtgcjpddpolaofahGreatPls
namespace Go.Proofs.YtgcjpddpolaofahGreat
open Go.RowKit

theorem rowB_of_F {w : World} {g n N n0 : Nat} {F : Nat → Value} {f : Nat → Int} (h : w.rowIs g 3 N F) (hn : n ≤ N) (hf : ∀ j, j < n → F j = .int .i64 (f j)) (hg : g < n0) : RowB n0 w (some ⟨g, 0, none⟩) (ls f n) := fun k hk => by
  rw [ls_len] at hk
  exact ⟨g, 0, rfl, hg, by rw [Nat.zero_add, ls_at _ _ _ hk, ← hf k hk]; exact h.cell (by omega)⟩

end Go.Proofs.YtgcjpddpolaofahGreat
