/- What every law's end leans on. An argument of type []int, opened. Arguments, each by itself. -/
import Derived.Test.YtcajofdmadpmoaaRows
import Derived.ChangeSame
import Derived.ChangeVars
import Derived.JoinedOf
import Derived.RowKit
import Derived.RowKitTokens
import Derived.LaidLaws
import Derived.LaidHandle
import Derived.Stop.Joined
import Derived.ProofKit
import Derived.OpenShut
import Derived.Test.YtcajofdmadpmoaaFld
import Derived.SizedLaws
import Derived.ChangeOld
namespace Go.Proofs.Ytcajofdmadpmoaa
open Go.ChangeShapes Go.WideShapes Go.RowKit

theorem own : ownKnob Try.prog.godebug = none := by kernel_rfl

theorem laidOut : laidOutB Try.prog = true := by kernel_rfl

end Go.Proofs.Ytcajofdmadpmoaa

namespace Go.Proofs.Ytcajofdmadpmoaa
open Go.ChangeShapes Go.WideShapes Go.RowKit

end Go.Proofs.Ytcajofdmadpmoaa

namespace Go.Proofs.Ytcajofdmadpmoaa

theorem arr_of_list {args : Array Value} {l : List Value} (h : args.toList = l) : args = l.toArray := by rw [← h]

end Go.Proofs.Ytcajofdmadpmoaa
