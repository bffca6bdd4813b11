/- attestref6.Do: 10 -/
import Derived.Test.YtaibngnabhmabakDoorBaAC
namespace Go.Proofs.YtaibngnabhmabakDoor
open Go.RowKit

theorem tell_regs {p : Nat} {s : RM} {x y : Int} : (s.tell p x y).pc = s.pc ∧ (s.tell p x y).rv = s.rv := by
  unfold RM.tell
  split
  · exact ⟨rfl, rfl⟩
  · split
    · exact ⟨rfl, rfl⟩
    · split <;> exact ⟨rfl, rfl⟩

end Go.Proofs.YtaibngnabhmabakDoor
