/- Package machine: step, the walk. -/
import Derived.Test.YtaibngnabhmabakDoorBaAG
namespace Go.Proofs.YtaibngnabhmabakDoor
open Go.RowKit Go.Maps

theorem cel3_fit {p : Nat} (h3 : 3 ≤ p) (h4 : p ≤ 2147483647) (op a b c fp ap : Int) (i : Nat) : I64 (cel3 p op a b c fp ap i) := by
  have e : ∀ x : Int, I64 (x % (p : Int)) := fun x => by have := emod_bounds x p h3; exact ⟨by omega, by omega⟩
  have z : I64 0 := ⟨by decide, by decide⟩
  unfold cel3
  repeat' split
  all_goals first | exact e _ | exact z

end Go.Proofs.YtaibngnabhmabakDoor
