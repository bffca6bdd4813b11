/- Package code: Is, Distance; the reference's Distance. -/
import Derived.Test.YtbbjbhiihfnkmagDoorCodA
namespace Go.Proofs.YtbbjbhiihfnkmagDoor
open Go.RowKit

theorem tpn_can {p : Nat} (hp : 0 < p) {zs : List Int} (h : Pol.Can p zs) : tpn p (zat zs) zs.length = zs.length := by
  have h1 := congrArg List.length (Pol.trim_id hp h)
  rw [Pol.trim, Pol.mk_length] at h1
  have e : zat zs = Pol.cf zs := funext fun j => zat_cf zs j
  unfold tpn
  rw [e]
  exact h1

end Go.Proofs.YtbbjbhiihfnkmagDoor
