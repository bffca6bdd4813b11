
import Derived.Test.YtkdndfbfmchcpaaGreatDoorTgAA
set_option maxRecDepth 1000000
set_option maxHeartbeats 8000000
namespace Go.Proofs.YtkdndfbfmchcpaaGreatDoor
variable {b d n p:Nat}{r s:Int}{w w':World}
open Go.RowKit Pol
open Go.RowKit
structure DO (w:World) (p b d n:Nat) (r s:Int):Prop where
 pr:Num.Prime p
 h3:3<=p
 hm:p<=2147483647
 hp:w.cell? ⟨b,0,none⟩=some (.int .i64 p)
 da:DomAt w d b n r s
 hk:∃ k,k<=16/\n=2 ^ k
 hr0:0<=r
 hr1:r<p
 ord:Dom.Ord p r n
 hs0:0<=s
 hs1:s<p
 hsd:¬ (p:Int)∣s
theorem DO.below{n0:Nat} (h:DO w p b d n r s) (e:Below n0 w w') (hb:b<n0) (hd:d<n0):DO w' p b d n r s :=
 ⟨h.pr,h.h3,h.hm,(e.cell (p:=⟨b,0,none⟩) hb).trans h.hp,h.da.below e hd,h.hk,h.hr0,h.hr1,h.ord,h.hs0,h.hs1,h.hsd⟩
theorem DO.blt (h:DO w p b d n r s):b<w.heap.size:=qK h.hp
theorem DO.dlt (h:DO w p b d n r s):d<w.heap.size:=h.da.lt
theorem DO.step (h:DO w p b d n r s) (e:Below w.heap.size w w'):DO w' p b d n r s:=h.below e h.blt h.dlt
theorem DO.pos (h:DO w p b d n r s):0<n/\n<=65536:=by
 obtain⟨k,h1,h2⟩:=h.hk;have:=Az h1;have:0<2 ^ k:=Nat.pow_pos (by decide);omega
end Go.Proofs.YtkdndfbfmchcpaaGreatDoor
