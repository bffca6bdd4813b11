/- attestref6.Do: 9 attestref6.Do: 10 attestref6.Do: 11 -/
import Derived.Test.YtaibngnabhmabajDoorBbAA
namespace Go.Proofs.YtaibngnabhmabajDoor
open Go.RowKit

end Go.Proofs.YtaibngnabhmabajDoor

namespace Go.Proofs.YtaibngnabhmabajDoor
open Go.RowKit

theorem tell_regs {p : Nat} {s : RM} {x y : Int} : (s.tell p x y).pc = s.pc ∧ (s.tell p x y).rv = s.rv := by
  unfold RM.tell
  split
  · exact ⟨rfl, rfl⟩
  · split
    · exact ⟨rfl, rfl⟩
    · split <;> exact ⟨rfl, rfl⟩

end Go.Proofs.YtaibngnabhmabajDoor

namespace Go.Proofs.YtaibngnabhmabajDoor
open Go.RowKit

end Go.Proofs.YtaibngnabhmabajDoor
