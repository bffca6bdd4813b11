/- Package pledge: Check, where it can be told: up to what is drawn. Package pledge, plainly: what Open tells Check takes, and it is what the table Extends to. -/
import Derived.Test.YtlhjifpomchnfaaGreatDoorPoAV
import Derived.Test.YtlhjifpomchnfaaGreatDoorPoAM
import Derived.Test.YtlhjifpomchnfaaGreatDoorPoAN
import Derived.Test.YtlhjifpomchnfaaGreatDoorTres
namespace Go.Proofs.YtlhjifpomchnfaaGreatDoor
open Go.RowKit

/-- what pledge.Check looks at, whatever becomes of the chain -/
structure PlO (w : World) (c q n dd sb s b d N : Nat) (r t : Int) (a1 a2 a3 ap ar an' a4 : Option Addr) (c1 c2 c3 cp cr cn c4 : Nat) (root mixed point ps : List Int) (rows nodes : List (List Int)) (at' : List Int) : Prop where
  sp : ∀ W, w.grownBy W (some c) → SpgAt W s sb q n dd
  dm : ∀ W, w.grownBy W (some c) → DO W q b d N r t
  l1 : ∀ W, w.grownBy W (some c) → Lst W.heap.size W a1 c1 root
  l2 : ∀ W, w.grownBy W (some c) → Lst W.heap.size W a2 c2 mixed
  l3 : ∀ W, w.grownBy W (some c) → Lst W.heap.size W a3 c3 point
  lp : ∀ W, w.grownBy W (some c) → Lst W.heap.size W ap cp ps
  lr : ∀ W, w.grownBy W (some c) → LstR W.heap.size W ar cr rows
  ln : ∀ W, w.grownBy W (some c) → LstR W.heap.size W an' cn nodes
  l4 : ∀ W, w.grownBy W (some c) → Lst W.heap.size W a4 c4 at'
theorem PlO.step {w w' : World} {c q n dd sb s b d N : Nat} {r t : Int} {a1 a2 a3 ap ar an' a4 : Option Addr} {c1 c2 c3 cp cr cn c4 : Nat} {root mixed point ps : List Int} {rows nodes : List (List Int)} {at' : List Int} (h : PlO w c q n dd sb s b d N r t a1 a2 a3 ap ar an' a4 c1 c2 c3 cp cr cn c4 root mixed point ps rows nodes at') (g : w.grownBy w' (some c)) : PlO w' c q n dd sb s b d N r t a1 a2 a3 ap ar an' a4 c1 c2 c3 cp cr cn c4 root mixed point ps rows nodes at' :=
  ⟨fun W k => h.sp W (gb_trans g k), fun W k => h.dm W (gb_trans g k), fun W k => h.l1 W (gb_trans g k), fun W k => h.l2 W (gb_trans g k), fun W k => h.l3 W (gb_trans g k), fun W k => h.lp W (gb_trans g k), fun W k => h.lr W (gb_trans g k), fun W k => h.ln W (gb_trans g k), fun W k => h.l4 W (gb_trans g k)⟩
/-- numbers that an int holds -/
structure PlF (root mixed point ps : List Int) (rows nodes : List (List Int)) (at' : List Int) : Prop where
  f1 : Fits root
  f2 : Fits mixed
  f3 : Fits point
  fp : Fits ps
  fr : FitsR rows
  fn : FitsR nodes
  f4 : Fits at'
  m1 : root.length ≤ 17592186043904
  m2 : mixed.length ≤ 17592186043904
  m3 : point.length ≤ 17592186043904
  mp : ps.length ≤ 17592186043904
  mr : rows.length ≤ 17592186043904
  mn : nodes.length ≤ 17592186043904
  m4 : at'.length ≤ 17592186043904
end Go.Proofs.YtlhjifpomchnfaaGreatDoor

namespace Go.Proofs.YtlhjifpomchnfaaGreatDoor
open Go.RowKit

end Go.Proofs.YtlhjifpomchnfaaGreatDoor
