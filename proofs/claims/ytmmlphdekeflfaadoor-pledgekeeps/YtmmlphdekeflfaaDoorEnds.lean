/- What every law's end leans on. An argument of type []int, opened. Arguments, each by itself. -/
import Derived.Test.YtmmlphdekeflfaaDoorRows
import Derived.ChangeSame
import Derived.ChangeVars
import Derived.JoinedOf
import Derived.RowKit
import Derived.RowKitTokens
import Derived.LaidLaws
import Derived.LaidHandle
import Derived.Stop.Joined
import Derived.ProofKit
import Derived.OpenShut
import Derived.Test.YtmmlphdekeflfaaDoorFld
import Derived.SizedLaws
import Derived.ChangeOld
namespace Go.Proofs.YtmmlphdekeflfaaDoor
open Go.ChangeShapes Go.WideShapes Go.RowKit

theorem own : ownKnob Tryd.prog.godebug = none := by kernel_rfl

theorem laidOut : laidOutB Tryd.prog = true := by kernel_rfl

theorem wf_bounds {a : Int} (h : (Lit.int .i64 a).wf = true) : -9223372036854775808 ≤ a ∧ a ≤ 9223372036854775807 := bounds_i64 h

end Go.Proofs.YtmmlphdekeflfaaDoor

namespace Go.Proofs.YtmmlphdekeflfaaDoor
open Go.ChangeShapes Go.WideShapes Go.RowKit

end Go.Proofs.YtmmlphdekeflfaaDoor

namespace Go.Proofs.YtmmlphdekeflfaaDoor

theorem arr_of_list {args : Array Value} {l : List Value} (h : args.toList = l) : args = l.toArray := by rw [← h]

end Go.Proofs.YtmmlphdekeflfaaDoor
