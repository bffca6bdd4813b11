/- Rows of rows that a call owns; attestsame.Copied, Rows. attestref3, the trees: Nodes. attestref3, the trees: Once. attestref5.Open. attestref3, the trees: Climb's Up. attestref3, the trees: Climb's Up: what lacks. attestref3, the trees: Climb's Up: a node of another length. attestref3, the trees: Climb's Up: a node is taken. attestref3, the trees: Climb's Up: a row that is shown. attestref3, the trees: Climb's Up: the tree of what is shown. attestref3: Check. Trees, plain facts: what is opened is taken. -/
import Derived.Test.YtjibpfdhaejfdaaDoorRefs
import Derived.Test.YtjibpfdhaejfdaaDoorSpgs
import Derived.Deep.Onto
import Derived.OneCell
import Derived.Test.YtjibpfdhaejfdaaDoorSpgH
import Derived.StillTailTactics
namespace Go.Proofs.YtjibpfdhaejfdaaDoor
open Go.RowKit

end Go.Proofs.YtjibpfdhaejfdaaDoor

namespace Go.Proofs.YtjibpfdhaejfdaaDoor
open Go.RowKit

end Go.Proofs.YtjibpfdhaejfdaaDoor

namespace Go.Proofs.YtjibpfdhaejfdaaDoor
open Go.RowKit

attribute [local irreducible] wpStill

end Go.Proofs.YtjibpfdhaejfdaaDoor

namespace Go.Proofs.YtjibpfdhaejfdaaDoor
open Go.RowKit

end Go.Proofs.YtjibpfdhaejfdaaDoor

namespace Go.Proofs.YtjibpfdhaejfdaaDoor
open Go.RowKit

end Go.Proofs.YtjibpfdhaejfdaaDoor

namespace Go.Proofs.YtjibpfdhaejfdaaDoor
open Go.RowKit

attribute [local irreducible] wpStill

end Go.Proofs.YtjibpfdhaejfdaaDoor

namespace Go.Proofs.YtjibpfdhaejfdaaDoor
open Go.RowKit

attribute [local irreducible] wpStill

end Go.Proofs.YtjibpfdhaejfdaaDoor

namespace Go.Proofs.YtjibpfdhaejfdaaDoor
open Go.RowKit

attribute [local irreducible] wpStill

end Go.Proofs.YtjibpfdhaejfdaaDoor

namespace Go.Proofs.YtjibpfdhaejfdaaDoor
open Go.RowKit

attribute [local irreducible] wpStill

end Go.Proofs.YtjibpfdhaejfdaaDoor

namespace Go.Proofs.YtjibpfdhaejfdaaDoor
open Go.RowKit

attribute [local irreducible] wpStill

end Go.Proofs.YtjibpfdhaejfdaaDoor

namespace Go.Proofs.YtjibpfdhaejfdaaDoor
open Go.RowKit

/-- places ascending below N -/
def AscN (N : Int) (ps : List Int) : Prop := ∀ j, j < ps.length → 0 ≤ zat ps j ∧ zat ps j < N ∧ (0 < j → zat ps (j - 1) < zat ps j)
instance (N : Int) (ps : List Int) : Decidable (AscN N ps) := by unfold AscN; infer_instance

attribute [local irreducible] wpStill

end Go.Proofs.YtjibpfdhaejfdaaDoor

namespace Go.Proofs.YtjibpfdhaejfdaaDoor
open Go.RowKit

/-! ## alike as elements -/
end Go.Proofs.YtjibpfdhaejfdaaDoor
