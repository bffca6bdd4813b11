
import Derived.Test.YtkdndfbfmchcpaaGreatDoorTgBD
set_option maxRecDepth 1000000
set_option maxHeartbeats 8000000
namespace Go.Proofs.YtkdndfbfmchcpaaGreatDoor
open Go.RowKit
end Go.Proofs.YtkdndfbfmchcpaaGreatDoor
namespace Go.Proofs.YtkdndfbfmchcpaaGreatDoor.Fol
open Pol Dom
end Go.Proofs.YtkdndfbfmchcpaaGreatDoor.Fol
namespace Go.Proofs.YtkdndfbfmchcpaaGreatDoor
open Go.RowKit
open Go.RowKit Pol
theorem DO.of {w:World} {q k b d r:Nat} {s:Int} (hg:GoodAt q k s) (hr:Kp q ((2 ^ k:Nat):Int) r) (hc:w.cell? ⟨b,0,none⟩=some (.int .i64 q)) (hd:DomAt w d b ((2 ^ k:Nat):Int) r (s % (q:Int))):DO w q b d (2 ^ k) r (s % (q:Int)):=by
 obtain⟨h1,h2⟩:=aAx hg.pr hg.h3 hg.hd hr;obtain⟨t0,t1⟩:=qQ s q hg.h3;exact⟨hg.pr,hg.h3,hg.h4,hc,hd,⟨k,hg.hk,rfl⟩,by omega,by omega,h1,t0,t1,Jj hg.hs⟩
structure GoodT (q k:Nat) (s:Int):Prop where
 at':GoodAt q k s
 h23:23<=q
def aDt (p n s:Int):Prop:=∃ q k:Nat,p=(q:Int)/\n=((2 ^ k:Nat):Int)/\GoodT q k s
end Go.Proofs.YtkdndfbfmchcpaaGreatDoor
