/- A world for the witness: package errors' own variable holds what its text lays. -/
import Derived.Test.YtfombbbiilalpabDoorHandle
namespace Go.Proofs.YtfombbbiilalpabDoor

noncomputable def laidWorld (os : Os) : World :=
  { World.holding Tryd.prog os ⟨#[], #[], []⟩ with heap := (World.holding Tryd.prog os ⟨#[], #[], []⟩).heap.modify 0 fun
      | .cells _ t frozen => .cells #[.iface 100 (.agg #[.pointer (some ⟨1, 39, none⟩)])] t frozen
      | o => o }

end Go.Proofs.YtfombbbiilalpabDoor
