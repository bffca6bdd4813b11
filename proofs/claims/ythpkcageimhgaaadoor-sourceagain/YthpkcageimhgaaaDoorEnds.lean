/- What every law's end leans on. An argument of type []int, opened. Arguments, each by itself. -/
import Derived.Test.YthpkcageimhgaaaDoorRows
import Derived.ChangeSame
import Derived.ChangeVars
import Derived.JoinedOf
import Derived.RowKit
import Derived.RowKitTokens
import Derived.LaidLaws
import Derived.LaidHandle
import Derived.Stop.Joined
import Derived.ProofKit
import Derived.OpenShut
import Derived.Test.YthpkcageimhgaaaDoorFld
import Derived.SizedLaws
import Derived.ChangeOld
namespace Go.Proofs.YthpkcageimhgaaaDoor
open Go.ChangeShapes Go.WideShapes Go.RowKit

theorem own : ownKnob Tryd.prog.godebug = none := by kernel_rfl

end Go.Proofs.YthpkcageimhgaaaDoor

namespace Go.Proofs.YthpkcageimhgaaaDoor
open Go.ChangeShapes Go.WideShapes Go.RowKit

end Go.Proofs.YthpkcageimhgaaaDoor

namespace Go.Proofs.YthpkcageimhgaaaDoor

theorem arr_of_list {args : Array Value} {l : List Value} (h : args.toList = l) : args = l.toArray := by rw [← h]

end Go.Proofs.YthpkcageimhgaaaDoor
