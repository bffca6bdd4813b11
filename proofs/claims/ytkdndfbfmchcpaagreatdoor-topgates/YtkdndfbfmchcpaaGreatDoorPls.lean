
import Derived.Test.YtkdndfbfmchcpaaGreatDoorFld
import Derived.RegionTactic
import Derived.BigRegion
import Derived.Laws.AppendOwnNone
set_option maxRecDepth 1000000
set_option maxHeartbeats 8000000
namespace Go.Proofs.YtkdndfbfmchcpaaGreatDoor
variable {n:Nat}{w:World}
open Go.RowKit
def aBB (P:Nat->Prop) (w:World) (a:Option Addr) (n:Nat) (f:Nat->Int):Prop :=
 ∀ k,k<n->∃ b o,a=some ⟨b,o,none⟩/\P b/\w.cell? ⟨b,o+k,none⟩=some (.int .i64 (f k))
def Zd (n:Nat) (f:Nat->Int):Prop:=∀ j,j<n->-9223372036854775808<=f j/\f j<=9223372036854775807
theorem Cells.f{g:Nat}{f:Nat->Int} (h:Cells g 0 n f w):aBB (·=g) w (some ⟨g,0,none⟩) n f:=fun k hk=>⟨g,0,rfl,rfl,h.cells k hk⟩
def tpn (p:Nat) (f:Nat->Int) (n:Nat):Nat:=Pol.tp p f n
theorem Wb (p:Nat) (f:Nat->Int) (n:Nat):tpn p f n<=n:=Pol.tp_le p f n
theorem aDS (p b n cap:Nat) (P:Nat->Prop) (a:Option Addr) (f:Nat->Int) (w:World) (h3:3<=p) (hm:p<=2147483647) (hp:w.cell? ⟨b,0,none⟩=some (.int .i64 p))
  (hn:n<=9223372036854775807) (hfit:Zd n f) (hrow:aBB P w a n f) :
  Calls Tryz.prog 178 #[.pointer (some ⟨b,0,none⟩),.slice a n cap] w fun e w'=>e=.returned (.int .i64 ((tpn p f n:Int)-1))/\w'=w:=by
 have HF:=hid hfit;have HR:=hid hrow;clear hfit hrow;go_enter Tryz.func178,Tryz.ntmps178;go_wp2_with fail;go_loop [5] (fun iv=>∃ k:Nat,k<=n/\iv=.int .i64 ((k:Int)-1)/\Hid (tpn p f n=tpn p f k)) (fun iv=>(intOf iv+1).toNat)
 case atStart=>exact⟨n,Nat.le_refl _,rfl,rfl⟩
 case round =>
  obtain⟨k,hk,rfl,hT⟩:=hrel;cases k with
  | zero =>
   have e0:Hid ((tpn p f n:Int)-1=((0:Nat):Int)-1):=by unfold Hid;rw[hT.out];rfl
   go_wp2_with fail;go_ret;exact⟨xJ (by rw[e0.out];rfl),rfl⟩
  | succ j =>
   have hj:j<n:=by omega
   have e1:(((j+1:Nat):Int)-1)=(j:Int):=by omega
   rw[e1];have hj0:(0:Int)<=(j:Int):=by omega
   have hjn:(j:Int)<(n:Int):=by omega
   obtain⟨bl,ol,rfl,_,hcl⟩:=HR.out j hj;obtain⟨hx1,hx2⟩:=HF.out j hj;have HS:Hid (f j % (p:Int)=0->tpn p f (j+1)=tpn p f j):=fun h=>by unfold tpn;rw[Pol.tp,if_pos h]
   have HE:Hid (f j % (p:Int)≠0->tpn p f (j+1)=j+1):=fun h=>by unfold tpn;rw[Pol.tp,if_neg h]
   generalize f j=x at *;clear e1;go_wp2_with fail;refine (zZ p b x w h3 hm hp hx1 hx2).mono ?_;rintro e w1 ⟨rfl,rfl⟩;by_cases hz:x % (p:Int)=0
   ·have hzb:(x % (p:Int)==0)=true:=by rw[hz];rfl
    have HS2:=hid (hT.out.trans (HS.out hz));clear hz HS HE;go_wp2_with fail
    go_round
    case rel=>exact⟨j,by omega,rfl,HS2⟩
    case measure=>simp[intOf]
   ·have hzb:(x % (p:Int)==0)=false:=by rw[beq_eq_false_iff_ne];exact hz
    have HS2:=hid (hT.out.trans (HE.out hz));clear hz HS HE;go_wp2_with fail;go_ret;exact⟨xJ (by rw[HS2.out];omega),rfl⟩
theorem Is (p b g n cap:Nat) (f:Nat->Int) (w:World) (h3:3<=p) (hm:p<=2147483647) (hp:w.cell? ⟨b,0,none⟩=some (.int .i64 p))
  (hn:n<=281474976710656) (hcap:n<=cap) (hfit:Zd n f) (hrow:Cells g 0 n f w) :
  Calls Tryz.prog 152 #[.pointer (some ⟨b,0,none⟩),.slice (some ⟨g,0,none⟩) n cap] w fun e w'=>e=.returned (.slice (some ⟨g,0,none⟩) (tpn p f n) cap)/\w'=w:=by
 have hd:=hid (aDS p b n cap (·=g) (some ⟨g,0,none⟩) f w h3 hm hp (by omega) hfit hrow.f);have hle:=Wb p f n;clear hfit hrow;generalize tpn p f n=t at *;have e1:(t:Int)-1+1=(t:Int):=by omega
 go_enter Tryz.func152,Tryz.ntmps152;go_wp2_with fail;refine hd.out.mono ?_;rintro e w1 ⟨rfl,rfl⟩;go_wp2_with fail;go_ret;exact⟨rfl,rfl⟩
theorem aA7{a:Option Addr}{m c:Nat} (h:n=m):Ending.returned (.slice a n c)=.returned (.slice a m c):=by rw[h]
theorem Ky{p:Nat} (hm:p<=2147483647) {zs:List Int} (h:Pol.Can p zs):Fits zs:=fun j hj=>by
 have:=h.elem j hj;have e:zat zs j=zs.getD j 0:=rfl;omega
def evz (p:Nat) (zs:List Int) (x:Int):Int:=Pol.ps (zat zs) x zs.length % (p:Int)
theorem Fb (p:Nat) (zs:List Int) (x:Int) (h3:3<=p):0<=evz p zs x/\evz p zs x<p:=qQ _ p h3
def hzm (p:Nat) (f:Nat->Int) (x:Int) (n k:Nat):Int:=Pol.hz f x n k % (p:Int)
theorem aBC (p:Nat) (f:Nat->Int) (x:Int) (n k:Nat):(hzm p f x n k*x % (p:Int)+f (n-1-k)) % (p:Int)=hzm p f x n (k+1):=by
 unfold hzm;rw[Pol.hz,Int.mul_emod,Int.emod_emod_of_dvd _ (Int.dvd_refl _),<- Int.mul_emod,Int.add_emod,Int.emod_emod_of_dvd _ (Int.dvd_refl _),<- Int.add_emod]
theorem Fz (p b cap:Nat) (P:Nat->Prop) (a:Option Addr) (zs:List Int) (x:Int) (w:World) (h3:3<=p) (hm:p<=2147483647) (hp:w.cell? ⟨b,0,none⟩=some (.int .i64 p))
  (hn:zs.length<=281474976710656) (hfit:Fits zs) (hx1:-9223372036854775808<=x) (hx2:x<=9223372036854775807) (hrow:Ry P w a zs) :
  Calls Tryz.prog 82 #[.pointer (some ⟨b,0,none⟩),.slice a zs.length cap,.int .i64 x] w fun e w'=>e=.returned (.int .i64 (evz p zs x))/\∃ n,w'=w.drewN n:=by
 have HF:=hid hfit;have HR:=hid hrow;have HE:Hid (hzm p (zat zs) x zs.length zs.length=evz p zs x):=by unfold Hid hzm evz;rw[Pol.hz_ps]
 clear hfit hrow;go_enter Tryz.func82,Tryz.ntmps82;go_wp2_with fail;go_loopw [7,11] (fun sv iv wr=>∃ k n:Nat,k<=zs.length/\iv=.int .i64 k/\sv=.int .i64 (hzm p (zat zs) x zs.length k)/\Hid (wr=w.drewN n)) (fun _ iv _=>zs.length-(intOf iv).toNat)
 case atStart=>exact⟨0,0,Nat.zero_le _,rfl,by simp[hzm,Pol.hz],rfl⟩
 case round =>
  obtain⟨k,n,hk,rfl,rfl,HW⟩:=hrel;have hpc:wr.cell? ⟨b,0,none⟩=some (.int .i64 p):=by rw[HW.out];exact hp
  by_cases hlt:k<zs.length
  ·have hlt2:(k:Int)<(zs.length:Int):=by omega
   have e1:(zs.length:Int)-1-(k:Int)=((zs.length-1-k:Nat):Int):=by omega
   have hlt3:((zs.length-1-k:Nat):Int)<(zs.length:Int):=by omega
   obtain⟨bl,ol,rfl,hbl,hcl⟩:=HR.out (zs.length-1-k) (by omega);have hcl2:wr.cell? ⟨bl,ol+(zs.length-1-k),none⟩=some (.int .i64 (zat zs (zs.length-1-k))):=by rw[HW.out];exact hcl
   have HY:=HF.out (zs.length-1-k) (by omega);have HS:=hid (aBC p (zat zs) x zs.length k);have hb1:=qQ (Pol.hz (zat zs) x zs.length k) p h3;have hb2:=qQ (hzm p (zat zs) x zs.length k*x) p h3;rw[show Pol.hz (zat zs) x zs.length k % (p:Int)=hzm p (zat zs) x zs.length k from rfl] at hb1
   have HM:Hid (∀ w1:World,w1.cell? ⟨b,0,none⟩=some (.int .i64 p)->Calls Tryz.prog 78 #[.pointer (some ⟨b,0,none⟩),.int .i64 (hzm p (zat zs) x zs.length k),.int .i64 x] w1 fun e w'=>e=.returned (.int .i64 (hzm p (zat zs) x zs.length k*x % p))/\w'=w1) :=
    fun w1 h=>kK p b _ _ w1 h3 hm h (by omega) (by omega) hx1 hx2
   have HA:Hid (∀ w1:World,w1.cell? ⟨b,0,none⟩=some (.int .i64 p)->Calls Tryz.prog 64 #[.pointer (some ⟨b,0,none⟩),.int .i64 (hzm p (zat zs) x zs.length k*x % (p:Int)),.int .i64 (zat zs (zs.length-1-k))] w1 fun e w'=>e=.returned (.int .i64 ((hzm p (zat zs) x zs.length k*x % (p:Int)+zat zs (zs.length-1-k)) % p))/\w'=w1) :=
    fun w1 h=>yV p b _ _ w1 h3 hm h (by omega) (by omega) HY.1 HY.2
   rw[HS.out] at HA;generalize hzm p (zat zs) x zs.length k*x % (p:Int)=hx at *;generalize zat zs (zs.length-1-k)=y at *;generalize hzm p (zat zs) x zs.length k=h0 at *;generalize zs.length-1-k=j at *;clear HS hcl;go_wp2_with fail
   go_quiet (first
    | (go_at_call 78;exact Calls.quiet_of_same (HM.out _ hpc))
    | (go_at_call 64;exact Calls.quiet_of_same (HA.out _ hpc)))
   go_wp2_with fail;go_roundw
   case rel=>exact⟨k+1,_,by omega,by go_num,rfl,by unfold Hid;rw[HW.out,World.drewN_drewN]⟩
   case measure=>simp[intOf];omega
  ·have hlt2:¬ (k:Int)<(zs.length:Int):=by omega
   obtain rfl:k=zs.length:=by omega
   go_wp2_with fail;go_ret;exact⟨xJ HE.out,n,HW.out⟩
def pdv (p:Nat) (zs:List Int):List Int:=Pol.mk p (Pol.dv (Pol.cf zs)) (zs.length-1)
theorem aBD (p:Nat) (zs:List Int):(pdv p zs).length=tpn p (fun j=>zat zs (j+1)*((j:Int)+1)) (zs.length-1)/\∀ j,j<(pdv p zs).length->zat (pdv p zs) j=zat zs (j+1)*((j:Int)+1) % (p:Int) :=
 ⟨Pol.mk_length _ _ _,fun j hj=>by rw[pdv,Pol.mk_length] at hj;exact Pol.mk_at p _ _ j hj⟩
theorem Wc (p b cap:Nat) (P:Nat->Prop) (a:Option Addr) (zs:List Int) (w:World) (h3:3<=p) (hm:p<=2147483647) (hp:w.cell? ⟨b,0,none⟩=some (.int .i64 p))
  (hn:zs.length<=17592186044416) (hfit:Fits zs) (hrow:Ry P w a zs) (hP:∀ k,P k->k<w.heap.size) :
  Calls Tryz.prog 177 #[.pointer (some ⟨b,0,none⟩),.slice a zs.length cap] w fun e w'=>∃ cap,
   e=.returned (.slice (some ⟨w.heap.size,0,none⟩) (pdv p zs).length cap)/\(pdv p zs).length<=cap /\
   Cells w.heap.size 0 (pdv p zs).length (zat (pdv p zs)) w'/\Below w.heap.size w w'/\w'.heap.size=w.heap.size+1:=by
 have hb:b<w.heap.size:=by
  rcases Nat.lt_or_ge b w.heap.size with g | g
  ·exact g
  ·simp[World.cell?,Array.getElem?_eq_none g] at hp
 have HF:=hid hfit;have HR:=hid hrow;have HPP:=hid hP;obtain⟨hl,hz⟩:=aBD p zs;have hle:=Wb p (fun j=>zat zs (j+1)*((j:Int)+1)) (zs.length-1);rw[<- hl] at hle;have HZ:=hid hz;have HLN:=hid hl;have hmx:max (0:Int) ((zs.length:Int)-1)=((zs.length-1:Nat):Int):=by omega
 clear hfit hrow hP hz hl;have hmk:=fun n h1 h2 w=>run_make_row' (P:=Tryz.prog) 25 3 (.int .i64 0) 8 Tryz.underlying25 Tryz.infoInt rfl .i64 .i64 n h1 h2 w;have hmk2:=hmk (zs.length-1) (by omega) (by omega);clear hmk;have hmm:zs.length-1<zs.length∨zs.length-1=0:=by omega
 obtain⟨m,hmd⟩:=exE (zs.length-1);have HMD:=hid hmd;rw[<- hmd] at hmx hmk2 hle HLN;clear hmd hmm;go_enter Tryz.func177,Tryz.ntmps177;go_wp2_with fail
 go_loopw [14] (fun iv wr=>∃ (k:Nat) (o:Nat->Int),k<=m/\iv=.int .i64 k/\Hid (Cells w.heap.size 0 m o wr)/\Hid (∀ j,j<k->o j=zat zs (j+1)*((j:Int)+1) % (p:Int))/\Hid (Below w.heap.size w wr)/\wr.heap.size=w.heap.size+1)
  (fun iv _=>m-(intOf iv).toNat)
 case atStart =>
  refine⟨0,fun _=>0,Nat.zero_le _,rfl,⟨fun j hj=>?_,fun j hj=>?_⟩,fun j hj=>by omega,?_,by simp⟩
  ·rw[World.cell?_alloc_at _ _ _ _ (by simp)];simp[madeCells,hj,Nat.mod_one]
  ·simp
  ·exact (Below.refl _ _).alloc (Nat.le_refl _) _
 case round =>
  obtain⟨k,o,hk,rfl,hout,hoj,hbel,hsz⟩:=hrel;have hml:m<=17592186044416:=by have:=HMD.out;omega
  by_cases hlt:k<m
  ·have hlt2:(k:Int)<(m:Int):=by omega
   have hk1:k+1<zs.length:=by have:=HMD.out;omega
   have hlt3:(k:Int)+1<(zs.length:Int):=by omega
   have e1:((k:Int)+1).toNat=k+1:=by omega
   obtain⟨bl,ol,rfl,hbl,hcl⟩:=HR.out (k+1) hk1;have hcl2:=(hbel.out.cell (p:=⟨bl,ol+(k+1),none⟩) (HPP.out _ hbl)).trans hcl;have hok:=hout.out.cells k hlt;have hos:=hout.out.soft k hlt;rw[Nat.zero_add] at hok hos;have hpc:=(hbel.out.cell (p:=⟨b,0,none⟩) hb).trans hp;obtain⟨hx1,hx2⟩:=HF.out (k+1) hk1;have HC:=hid (hout.out.set (zat zs (k+1)*((k:Int)+1) % (p:Int)) hlt);have HB:=hid (hbel.out.setCell (p:=⟨w.heap.size,0+k,none⟩) (by simp) (.int .i64 (zat zs (k+1)*((k:Int)+1) % (p:Int))))
   have HJ:Hid (∀ j,j<k+1->up o k (zat zs (k+1)*((k:Int)+1) % (p:Int)) j=zat zs (j+1)*((j:Int)+1) % (p:Int)):=fun j hj=>by
    unfold up;by_cases hjk:j=k
    ·rw[if_pos hjk,hjk]
    ·rw[if_neg hjk];exact hoj.out j (by omega)
   rw[Nat.zero_add] at HC HB;have HM:=hid (kK p b (zat zs (k+1)) ((k:Int)+1) wr h3 hm hpc hx1 hx2 (by omega) (by omega));generalize zat zs (k+1)*((k:Int)+1) % (p:Int)=z at *;generalize zat zs (k+1)=x at *;clear hcl;go_wp2_with fail;refine HM.out.mono ?_;rintro e w2 ⟨rfl,rfl⟩;go_wp2_with fail;go_roundw
   case rel=>exact⟨k+1,_,by omega,by go_num,HC,HJ,HB,by simp[World.setCell];exact hsz⟩
   case measure=>simp[intOf];omega
  ·have hlt2:¬ (k:Int)<(m:Int):=by omega
   have hpc:=(hbel.out.cell (p:=⟨b,0,none⟩) hb).trans hp;have HC:=hid (hout.out.congr (fun j hj=>hoj.out j (by omega)))
   have HW:=hid (Is p b w.heap.size m m (fun j=>zat zs (j+1)*((j:Int)+1) % (p:Int)) wr h3 hm hpc (by omega) (Nat.le_refl _)
    (fun j _=>by have:=qQ (zat zs (j+1)*((j:Int)+1)) p h3;show -9223372036854775808<=zat zs (j+1)*((j:Int)+1) % (p:Int)/\zat zs (j+1)*((j:Int)+1) % (p:Int)<=9223372036854775807;omega) HC.out)
   have HE:Hid (tpn p (fun j=>zat zs (j+1)*((j:Int)+1) % (p:Int)) m=(pdv p zs).length):=(Pol.tp_mod p _ m).trans HLN.out.symm;go_wp2_with fail;refine HW.out.mono ?_;rintro e w2 ⟨rfl,rfl⟩;go_wp2_with fail;go_ret;exact⟨m,aA7 HE.out,hle,(HC.out.less hle).congr (fun j hj=>(HZ.out j hj).symm),hbel.out,hsz⟩
theorem qK{b:Nat}{v:Value} (hp:w.cell? ⟨b,0,none⟩=some v):b<w.heap.size:=by
 rcases Nat.lt_or_ge b w.heap.size with g | g
 ·exact g
 ·simp[World.cell?,Array.getElem?_eq_none g] at hp
theorem aA8 (n0 n1:Nat) (zs:List Int) (a b:Option Addr) (ca cb:Nat) (w:World) (ha:RowB n0 w a zs) (hb:RowB n1 w b zs) (hx:zs.length<=9223372036854775807) :
  Calls Tryz.prog 15 #[.slice a zs.length ca,.slice b zs.length cb] w fun e w'=>e=.returned (.bool true)/\∃ n,w'=w.drewN n :=
 (aBx zs zs _ _ w (Nz ca ha) (Nz cb hb) hx hx).mono fun _ _ h=>⟨by rw[h.1,decide_eq_true rfl],h.2⟩
end Go.Proofs.YtkdndfbfmchcpaaGreatDoor
