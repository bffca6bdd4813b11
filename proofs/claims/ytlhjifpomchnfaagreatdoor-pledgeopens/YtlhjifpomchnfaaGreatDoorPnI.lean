/- What pledge.Open tells: plainly, Check takes it; are two pledges the same. -/
import Derived.Test.YtlhjifpomchnfaaGreatDoorPoAZ
import Derived.Test.YtlhjifpomchnfaaGreatDoorPoAY
import Derived.Test.YtlhjifpomchnfaaGreatDoorPoBA
import Derived.Test.YtlhjifpomchnfaaGreatDoorPoBD
namespace Go.Proofs.YtlhjifpomchnfaaGreatDoor
open Go.RowKit

/-- a pledge that is kept through a step of a chain, too -/
structure PlS (w : World) (A : PlA) (o : Plg) : Prop where
  s1 : SlR w o.root (.slice A.a1 o.root.length A.c1)
  s2 : SlR w o.mixed (.slice A.a2 o.mixed.length A.c2)
  s3 : SlR w o.point (.slice A.a3 o.point.length A.c3)
  sp : SlR w o.ps (.slice A.ap o.ps.length A.cp)
  sr : OwnR 0 w (.slice A.ar o.rows.length A.cr) o.rows
  sn : OwnR 0 w (.slice A.an o.nodes.length A.cn) o.nodes
theorem PlS.keep {w W : World} {A : PlA} {o : Plg} (h : PlS w A o) (e : Below w.heap.size w W) : PlS W A o := ⟨SlR.keep h.s1 e, SlR.keep h.s2 e, SlR.keep h.s3 e, SlR.keep h.sp e, OwnR.keep h.sr e, OwnR.keep h.sn e⟩
theorem PlS.pstep {w W : World} {A : PlA} {o : Plg} {N0 q n c : Nat} {D : List Int} (h : PlS w A o) (hc : PCh N0 q n w c D) (e : w.grownBy W (some c)) : PlS W A o := ⟨SlR.pstep h.s1 hc e, SlR.pstep h.s2 hc e, SlR.pstep h.s3 hc e, SlR.pstep h.sp hc e, OwnR.pstep h.sr hc e, OwnR.pstep h.sn hc e⟩

end Go.Proofs.YtlhjifpomchnfaaGreatDoor
