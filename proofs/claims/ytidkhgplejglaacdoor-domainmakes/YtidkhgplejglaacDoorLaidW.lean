/- A world for the witness: package errors' own variable holds what its text lays. -/
import Derived.Test.YtidkhgplejglaacDoorHandle
namespace Go.Proofs.YtidkhgplejglaacDoor

noncomputable def laidWorld (os : Os) : World :=
  { World.holding Tryd.prog os ⟨#[], #[], []⟩ with heap := (World.holding Tryd.prog os ⟨#[], #[], []⟩).heap.modify 0 fun
      | .cells _ t frozen => .cells #[.iface 96 (.agg #[.pointer (some ⟨1, 37, none⟩)])] t frozen
      | o => o }

end Go.Proofs.YtidkhgplejglaacDoor
