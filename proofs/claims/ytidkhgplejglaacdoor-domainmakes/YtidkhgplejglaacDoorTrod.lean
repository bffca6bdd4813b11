/- Arguments, each by itself. -/
import Derived.Test.YtidkhgplejglaacDoorBase
namespace Go.Proofs.YtidkhgplejglaacDoor

theorem arr_of_list {args : Array Value} {l : List Value} (h : args.toList = l) : args = l.toArray := by rw [← h]

end Go.Proofs.YtidkhgplejglaacDoor
