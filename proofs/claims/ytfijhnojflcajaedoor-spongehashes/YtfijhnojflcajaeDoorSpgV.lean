/- Package sponge: changed, Permute, Unpermute, Mix. -/
import Derived.Test.YtfijhnojflcajaeDoorSpgU
namespace Go.Proofs.YtfijhnojflcajaeDoor
open Go.RowKit

theorem enters_of {P : Program} {f : FuncId} {fn : Func} (hf : P.funcs[f]? = some fn) (hb : fn.body.isNone = false) (hn : (fn.name == "runtime.NumGoroutine") = false) (args : Array Value) (w : World) : (callFunc f args).run P w = .ok (.enter f args) w := by
  simp only [callFunc, Sem.run_bind, run_program, Result.andThen_ok, hf, hn, hb]
  rfl

end Go.Proofs.YtfijhnojflcajaeDoor
