
import Derived.Test.YtkdndfbfmchcpaaGreatDoorTres
import Derived.Deep.RegionHeld3
import Derived.Shelf.Spec.TrailingZeros
import Derived.Lib.TrailingZeros
set_option maxRecDepth 1000000
set_option maxHeartbeats 8000000
namespace Go.Proofs.YtkdndfbfmchcpaaGreatDoor
variable {W W':World}{b n p:Nat}{rows:List (List Int)}
open Go.RowKit
theorem aAL (h3:3<=p) (hm:p<=2147483647) (t:List Int) (r:Int):Fits (Ie p t r):=fun j hj=>by
 rw[Lk] at hj;rw[Qd hj];have:=qQ (zat t j*(1-r)+zat t (j+t.length / 2)*r) p h3;omega
open Go.RowKit Pol
theorem Ww{j:Nat} (h:j<n):zat (Bk n) j=(j:Int):=kZ _ _ _ h
theorem Lm (h:n<=p):∀ i j,i<j->j<n->¬ (p:Int)∣zat (Bk n) j-zat (Bk n) i:=fun i j hij hj hd=>by
 rw[Ww hj,Ww (by omega)] at hd;have:=Int.le_of_dvd (by omega) hd;omega
theorem aCu (h3:3<=p) (xs ys:List Int) (r:Int):evz p (Dt p xs ys) r=ps (FS p xs ys xs.length) r xs.length % (p:Int):=Qa h3 _ _ _
def Nq (k:Int):Value:=if k=0 then .nilIface else .iface 72 (.int .i64 k)
theorem Du:Nq 0=.nilIface:=rfl
theorem Oj{k:Int} (h:k≠0):Nq k=.iface 72 (.int .i64 k):=by unfold Nq;rw[if_neg h]
structure InF (p b:Nat) (W:World):Prop where
 pr:Num.Prime p
 h3:3<=p
 hm:p<=2147483647
 cell:W.cell? ⟨b,0,none⟩=some (.int .i64 p)
theorem InF.below (h:InF p b W) (e:Below W.heap.size W W'):InF p b W':=⟨h.pr,h.h3,h.hm,(e.cell (p:=⟨b,0,none⟩) (qK h.cell)).trans h.cell⟩
structure InT (p b:Nat) (W:World):Prop extends InF p b W where
 tab:TabAt 1 Lib.deBruijn64tab W
theorem xU{w w':World} (h:TabAt 1 Lib.deBruijn64tab w) (hb:Below w.heap.size w w'):TabAt 1 Lib.deBruijn64tab w' :=
 fun j hj=>(hb.cell (p:=⟨1,j,none⟩) (Js (h j hj))).trans (h j hj)
theorem InT.below (h:InT p b W) (e:Below W.heap.size W W'):InT p b W':=⟨h.toInF.below e,xU h.tab e⟩
structure InL (W:World) (a:Option Addr) (c:Nat) (l:List Int):Prop where
 len:l.length<=17592186043904
 fit:Fits l
 lst:Lst W.heap.size W a c l
theorem InL.below{a:Option Addr}{c:Nat}{l:List Int} (h:InL W a c l) (e:Below W.heap.size W W'):InL W' a c l:=⟨h.len,h.fit,(h.lst.below e).mono e.size⟩
theorem Zk{v:Nat} (h:v<=6):wrap64 (2 ^ min v 64)=((2 ^ v:Nat):Int):=by
 rw[Nat.min_eq_left (by omega)];obtain rfl | rfl | rfl | rfl | rfl | rfl | rfl:v=0∨v=1∨v=2∨v=3∨v=4∨v=5∨v=6:=by omega
 all_goals (unfold wrap64;decide)
theorem aEi (n:Nat) (g:GatZ):decide (GtO n g)=(decide (0<=g.kind/\g.kind<2) && (decide (0<=g.a/\g.a<(n:Int)) && decide (0<=g.b/\g.b<(n:Int)))):=by
 rw[Bool.eq_iff_iff,Bool.and_eq_true,Bool.and_eq_true,decide_eq_true_eq,decide_eq_true_eq,decide_eq_true_eq,decide_eq_true_eq];constructor
 ·rintro⟨⟨h1,h2⟩,h3,h4⟩;exact⟨⟨h1,by omega⟩,h3,h4⟩
 ·rintro⟨⟨h1,h2⟩,h3,h4⟩;exact⟨⟨h1,by omega⟩,h3,h4⟩
theorem Qg (wide:Int) (cL:Nat) (aL:Option Addr) (lys:List (List GatZ)) (w:World) (hS:SzC wide lys) (hl:LstGG w.heap.size w aL cL lys) :
  Calls Tryz.prog 55 #[.agg #[.int .i64 wide,.slice aL lys.length cL]] w fun e w'=>e=.returned (.bool (gtD wide lys))/\Below w.heap.size w w':=by
 obtain⟨v,hv⟩:∃ v:Nat,wide=(v:Int):=⟨wide.toNat,by have:=hS.1;omega⟩
 subst hv;have hsh:=Zk (v:=v) (by have:=hS.1;omega);have HX0:Hid (2 ^ v=2 ^ bnn (v:Int) lys 0):=rfl;have HXK:Hid (∀ k,k<lys.length->(lyt lys k).length=2 ^ bnn (v:Int) lys (k+1)):=fun k hk=>(hS.own hk).1;have HXL:Hid (∀ k,k<lys.length->(lyt lys k).length<=64):=fun k hk=>by rw[(hS.own hk).1];exact Dn (hS.bn (by omega)).2
 have HNO:Hid (∀ i k,i<lys.length->k<(lyt lys i).length->decide (GtO (2 ^ bnn (v:Int) lys i) (gat (lyt lys i) k))=false->gtD (v:Int) lys=false):=fun i k hi hk hd=>aBU (fun h=>by have:=h i hi k hk;rw[decide_eq_false_iff_not] at hd;exact hd this);have HYE:Hid ((∀ i,i<lys.length->∀ k,k<(lyt lys i).length->GtO (2 ^ bnn (v:Int) lys i) (gat (lyt lys i) k))->gtD (v:Int) lys=true):=fun h=>Zg h;have HIX:Hid (∀ W,Below w.heap.size w W->LstGG w.heap.size W aL cL lys):=fun W hW=>hl.below hW;have hlen:=hS.2.1.2;obtain⟨n,hn⟩:=exE (lys.length);have HN:=hid hn;have HB0:Hid (Below w.heap.size w (w.alloc (.cells #[.int .i64 (v:Int),.slice aL n cL] 24))):=(Below.refl _ _).alloc (Nat.le_refl _) _;simp only[<- hn] at HXK HXL HNO HYE hlen ⊢;generalize gtD (v:Int) lys=D at *;generalize 2 ^ v=X at *;generalize bnn (v:Int) lys=bn at *;clear hS hl hn;go_enter Tryz.func55,Tryz.ntmps55;go_wp2_with fail;rw[hsh];clear hsh;generalize w.alloc (.cells #[.int .i64 (v:Int),.slice aL n cL] 24)=W0 at *;go_loopw [3,5,7,14] (fun bv _ _ iv wr=>∃ k:Nat,k<=n/\iv=.int .i64 (k:Int)/\(∃ Y:Nat,bv=.int .i64 (Y:Int)/\Hid (Y=2 ^ bn k))/\Hid (Below w.heap.size w wr/\∀ i,i<k->∀ j,j<(lyt lys i).length->GtO (2 ^ bn i) (gat (lyt lys i) j))) (fun _ _ _ iv _=>n-(intOf iv).toNat)
 case atStart=>exact⟨0,by omega,rfl,⟨X,rfl,HX0.out⟩,HB0.out,fun i hi=>by omega⟩
 case round =>
  obtain⟨k,hk,rfl,⟨Y,rfl,HY⟩,hI⟩:=hrel;obtain⟨wo,hwo⟩:=exE (wr);subst hwo;by_cases hlt:k<n
  ·have hlt2:(k:Int)<(n:Int):=by omega
   have hks:IntKind.i64.wrap ((k:Int)+1)=(k:Int)+1:=by rw[IntKind.wrap_i64];omega
   obtain⟨b0,o0,ak,ck,rfl,hb0,hc,hg⟩:=(HIX.out wo hI.out.1).row k (by rw[<- HN.out];exact hlt);have HGK:Hid (∀ W,Below wo.heap.size wo W->LstG w.heap.size W ak ck (lyt lys k)):=fun W hW=>hg.below (hW.mono hI.out.1.size);have HNK:Hid (∀ j,j<(lyt lys k).length->decide (GtO (2 ^ bn k) (gat (lyt lys k) j))=false->D=false):=fun j hj=>HNO.out k j hlt hj;have HLK:=HXL.out k hlt;have HYK:=hid (HXK.out k hlt);have HBO:=hid hI.out.1;have HPA:=hid hI.out.2;rw[<- HY.out] at HNK;clear hI hg;obtain⟨L,hL⟩:=exE ((lyt lys k).length);have HLE:=hid hL;simp only[<- hL] at HNK HLK HYK;rw[<- hL] at hc;clear hL;go_wp2_with fail;go_loopw [7,20] (fun _ iv wi=>∃ j:Nat,j<=L/\iv=.int .i64 (j:Int)/\Hid (Below wo.heap.size wo wi/\∀ i,i<j->GtO Y (gat (lyt lys k) i))) (fun _ iv _=>L-(intOf iv).toNat)
   case atStart=>exact⟨0,by omega,rfl,Below.refl _ _,fun i hi=>by omega⟩
   case round =>
    obtain⟨j,hj,rfl,hJ⟩:=hrel;by_cases hjt:j<L
    ·have hjt2:(j:Int)<(L:Int):=by omega
     have hjs:IntKind.i64.wrap ((j:Int)+1)=(j:Int)+1:=by rw[IntKind.wrap_i64];omega
     obtain⟨b1,o1,rfl,hb1,g0,g1,g2⟩:=(HGK.out wr hJ.out.1).row j (by rw[<- HLE.out];exact hjt);have HDE:=hid (aEi Y (gat (lyt lys k) j));have HNJ:=hid (HNK.out j hjt)
     have HJ2:Hid (GtO Y (gat (lyt lys k) j)->∀ i,i<j+1->GtO Y (gat (lyt lys k) i)):=fun h i hi=>by
      by_cases e:i=j
      ·rw[e];exact h
      ·exact hJ.out.2 i (by omega)
     obtain⟨W2,hW2⟩:=exE (wr.alloc (.cells #[.int .i64 (gat (lyt lys k) j).kind,.int .i64 (gat (lyt lys k) j).a,.int .i64 (gat (lyt lys k) j).b] 61));obtain⟨hb2,hs2,hz2⟩:=qV hW2;have HB2:Hid (Below wo.heap.size wo W2):=hJ.out.1.trans (hb2.mono hJ.out.1.size);have HBK:=hid (Cb (gat (lyt lys k) j).kind 2 W2);have HBA:=hid (Cb (gat (lyt lys k) j).a (Y:Int) W2);have HBB:=hid (Cb (gat (lyt lys k) j).b (Y:Int) W2);generalize gat (lyt lys k) j=g at *;obtain⟨B,hB⟩:=exE (wr.heap.size);have HR:=hid hB;rw[<- hB] at hs2;have c0:=clA 0 hs2 rfl;have c1:=clA 1 hs2 rfl;have c2:=clA 2 hs2 rfl;have HEW:Hid (Below w.heap.size w W2):=HBO.out.trans (HB2.out.mono HBO.out.size);clear hJ hb2 hz2 hs2 hB;by_cases q0:0<=g.kind/\g.kind<2
     ·rw[decide_eq_true q0] at HDE HBK;by_cases q1:0<=g.a/\g.a<(Y:Int)
      ·rw[decide_eq_true q1] at HDE HBA;by_cases q2:0<=g.b/\g.b<(Y:Int)
       ·rw[decide_eq_true q2] at HDE HBB;have HE:=hid (HJ2.out (of_decide_eq_true (HDE.out.trans rfl)));clear q0 q1 q2;generalize g.kind=xk at *;generalize g.a=xa at *;generalize g.b=xb at *;clear HDE HNJ HJ2;go_wp2_with fail;rw[<- hW2,<- HR.out];clear hW2 g0 g1 g2;refine HBK.out.mono ?_;rintro e w1 ⟨rfl,hw⟩;have hw1:=hw.symm;subst hw1;clear hw;go_wp2_with fail;refine HBA.out.mono ?_;rintro e w1 ⟨rfl,hw⟩;have hw1:=hw.symm;subst hw1;clear hw;go_wp2_with fail;refine HBB.out.mono ?_;rintro e w1 ⟨rfl,hw⟩;have hw1:=hw.symm;subst hw1;clear hw;go_wp2_with fail;go_roundw
        case rel=>exact⟨j+1,by omega,by go_num,HB2.out,HE.out⟩
        case measure=>simp[intOf];omega
       ·rw[decide_eq_false q2] at HDE HBB;have HE:Hid (D=false/\Below w.heap.size w W2):=⟨HNJ.out (HDE.out.trans rfl),HEW.out⟩
        clear q0 q1 q2;generalize g.kind=xk at *;generalize g.a=xa at *;generalize g.b=xb at *;clear HDE HNJ HJ2;go_wp2_with fail;rw[<- hW2,<- HR.out];clear hW2 g0 g1 g2;refine HBK.out.mono ?_;rintro e w1 ⟨rfl,hw⟩;have hw1:=hw.symm;subst hw1;clear hw;go_wp2_with fail;refine HBA.out.mono ?_;rintro e w1 ⟨rfl,hw⟩;have hw1:=hw.symm;subst hw1;clear hw;go_wp2_with fail;refine HBB.out.mono ?_;rintro e w1 ⟨rfl,hw⟩;have hw1:=hw.symm;subst hw1;clear hw;go_wp2_with fail;go_ret;exact⟨by rw[HE.out.1];rfl,HE.out.2⟩
      ·rw[decide_eq_false q1] at HDE HBA;have HE:Hid (D=false/\Below w.heap.size w W2):=⟨HNJ.out (HDE.out.trans rfl),HEW.out⟩
       clear q0 q1;generalize g.kind=xk at *;generalize g.a=xa at *;generalize g.b=xb at *;clear HDE HNJ HJ2;go_wp2_with fail;rw[<- hW2,<- HR.out];clear hW2 g0 g1 g2;refine HBK.out.mono ?_;rintro e w1 ⟨rfl,hw⟩;have hw1:=hw.symm;subst hw1;clear hw;go_wp2_with fail;refine HBA.out.mono ?_;rintro e w1 ⟨rfl,hw⟩;have hw1:=hw.symm;subst hw1;clear hw;go_wp2_with fail;go_ret;exact⟨by rw[HE.out.1];rfl,HE.out.2⟩
     ·rw[decide_eq_false q0] at HDE HBK;have HE:Hid (D=false/\Below w.heap.size w W2):=⟨HNJ.out (HDE.out.trans rfl),HEW.out⟩
      clear q0;generalize g.kind=xk at *;generalize g.a=xa at *;generalize g.b=xb at *;clear HDE HNJ HJ2;go_wp2_with fail;rw[<- hW2,<- HR.out];clear hW2 g0 g1 g2;refine HBK.out.mono ?_;rintro e w1 ⟨rfl,hw⟩;have hw1:=hw.symm;subst hw1;clear hw;go_wp2_with fail;go_ret;exact⟨by rw[HE.out.1];rfl,HE.out.2⟩
    ·obtain rfl:j=L:=by omega
     have hjt2:¬ (j:Int)<(j:Int):=by omega
     have HE:Hid (Below w.heap.size w wr/\∀ i,i<k+1->∀ j,j<(lyt lys i).length->GtO (2 ^ bn i) (gat (lyt lys i) j)):=⟨HBO.out.trans (hJ.out.1.mono HBO.out.size),fun i hi q hq=>by
      by_cases e:i=k
      ·subst e;rw[<- HY.out];exact hJ.out.2 q (by rw[HLE.out];exact hq)
      ·exact HPA.out i (by omega) q hq⟩
     clear hJ;go_wp2_with fail;go_roundw
     case rel=>exact⟨k+1,by omega,by go_num,⟨j,rfl,HYK.out⟩,HE.out⟩
     case measure=>simp[intOf];omega
  ·obtain rfl:k=n:=by omega
   have hlt2:¬ (k:Int)<(k:Int):=by omega
   have HE:Hid (D=true/\Below w.heap.size w wo):=⟨HYE.out (fun i hi j hj=>hI.out.2 i hi j hj),hI.out.1⟩
   clear hI;go_wp2_with fail;go_ret;exact⟨by rw[HE.out.1];rfl,HE.out.2⟩
theorem Iu (wide:Int) (cL:Nat) (aL:Option Addr) (lys:List (List GatZ)) (w:World) (hB:CirB lys) (hl:LstGG w.heap.size w aL cL lys) :
  Calls Tryz.prog 21 #[.agg #[.int .i64 wide,.slice aL lys.length cL]] w fun e w'=>e=.returned (Nq (flt wide lys))/\Below w.heap.size w w':=by
 obtain⟨W0,hW0⟩:=exE (w.alloc (.cells #[.int .i64 wide,.slice aL lys.length cL] 24));obtain⟨hb0,hs0,hz0⟩:=qV hW0;obtain⟨G,hG⟩:=exE (w.heap.size);rw[<- hG] at hs0
 have HC:Hid (∀ W,Below W0.heap.size W0 W->W.cell? ⟨G,0,none⟩=some (.int .i64 wide)/\W.cell? ⟨G,1,none⟩=some (.slice aL lys.length cL)):=fun W hW=>by have e1:=(hW.block G (Array.getElem?_eq_some_iff.1 hs0).1).trans hs0;exact⟨by simp[World.cell?,e1],by simp[World.cell?,e1]⟩
 have HSI:=hid (Pz wide cL aL lys W0 hB (hl.step hb0));have HGA:Hid (SzC wide lys->∀ W,Below W0.heap.size W0 W->Calls Tryz.prog 55 #[.agg #[.int .i64 wide,.slice aL lys.length cL]] W fun e w'=>e=.returned (.bool (gtD wide lys))/\Below W.heap.size W w'):=fun h W hW=>Qg wide cL aL lys W h ((hl.step hb0).step hW);have HB0:=hid hb0;have HWG:=hid hW0;have HG:=hid hG;obtain⟨c0,c1⟩:=HC.out W0 (Below.refl _ _);by_cases hS:SzC wide lys
 ·rw[Zf hS] at HSI;have HGB:=hid (HGA.out hS)
  have HFD:Hid (Nq (flt wide lys)=if gtD wide lys then .nilIface else .iface 72 (.int .i64 3)):=by
   unfold Hid;by_cases hg:GtC wide lys
   ·rw[aBz hS hg,Zg hg];rfl
   ·rw[aA2 hS hg,aBU hg];rfl
  generalize Nq (flt wide lys)=V at *;generalize gtD wide lys=D at *;generalize lys.length=n at *;clear HGA hS hl hB hb0 hs0 hz0 hW0 hG;go_enter Tryz.func21,Tryz.ntmps21;go_wp2_with fail;rw[<- HG.out,<- HWG.out];refine HSI.out.mono ?_;rintro e w1 ⟨rfl,hb1⟩;have HGC:=hid (HGB.out w1 hb1);obtain⟨d0,d1⟩:=HC.out w1 hb1;have HB1:Hid (Below w.heap.size w w1):=HB0.out.trans (hb1.mono HB0.out.size);clear hb1;go_wp2_with fail;refine HGC.out.mono ?_;rintro e w2 ⟨rfl,hb2⟩;have HB2:Hid (Below w.heap.size w w2):=HB1.out.trans (hb2.mono HB1.out.size);clear hb2;cases D with
  | true =>
   go_wp2_with fail;go_ret;exact⟨by rw[HFD.out];rfl,HB2.out⟩
  | false =>
   go_wp2_with fail;go_ret;exact⟨by rw[HFD.out];rfl,HB2.out⟩
 ·rw[Lg hS] at HSI;have HFD:Hid (Nq (flt wide lys)=.iface 72 (.int .i64 2)):=by unfold Hid;rw[aBy hS];rfl
  generalize Nq (flt wide lys)=V at *;generalize lys.length=n at *;clear HGA hS hl hB hb0 hs0 hz0 hW0 hG;go_enter Tryz.func21,Tryz.ntmps21;go_wp2_with fail;rw[<- HG.out,<- HWG.out];refine HSI.out.mono ?_;rintro e w1 ⟨rfl,hb1⟩;have HB1:Hid (Below w.heap.size w w1):=HB0.out.trans (hb1.mono HB0.out.size);clear hb1;go_wp2_with fail;go_ret;exact⟨by rw[HFD.out];rfl,HB1.out⟩
def pgc (rows:List (List Int)) (j:Nat):List Int:=rows.map fun r=>zat r j
theorem An (rows:List (List Int)) (j:Nat):(pgc rows j).length=rows.length:=by simp[pgc]
theorem Qh{i:Nat} (j:Nat) (h:i<rows.length):zat (pgc rows j) i=zat (rat rows i) j:=by
 simp[pgc,rat,zat,h]
theorem Ln (h:Ak rows) (j:Nat):Fits (pgc rows j):=fun i hi=>by
 rw[An] at hi;rw[Qh j hi];exact (h i hi).1.all j
def dtz (p n:Nat) (a b:List Int):Int:=Dom.sm (fun i=>zat a i*zat b i) n % (p:Int)
theorem Lo (p n:Nat) (a b:List Int) (h3:3<=p):0<=dtz p n a b/\dtz p n a b<p:=qQ _ p h3
theorem Tb (p n:Nat) (a b:List Int):dtz p n a b=dtz p n b a:=by
 unfold dtz;rw[Dom.sm_same (g:=fun i=>zat b i*zat a i) (fun i _=>Int.mul_comm _ _)]
theorem aCv (p:Nat) (a b:List Int):dtz p 0 a b=0:=by simp[dtz,Dom.sm]
theorem aCw (p n:Nat) (a b:List Int):(dtz p n a b+zat a n*zat b n % (p:Int)) % (p:Int)=dtz p (n+1) a b:=by
 unfold dtz;rw[Int.emod_add_emod,Int.add_emod_emod];rfl
def pwl (p:Nat) (r:Int) (n:Nat):List Int:=ls (fun i=>((Num.pwm p (el p r) i:Nat):Int)) n
theorem aEj (h3:3<=p) (r:Int) (i:Nat):(p:Int)∣((Num.pwm p (el p r) i:Nat):Int)-r ^ i:=by
 have h0:=qQ r p h3;have he:((el p r:Nat):Int)=r % (p:Int):=by unfold el;omega
 have h1:((Num.pwm p (el p r) i:Nat):Int)=(r % (p:Int)) ^ i % (p:Int):=by unfold Num.pwm;rw[<- he];simp
 rw[h1];apply Int.dvd_of_emod_eq_zero;rw[Int.sub_emod,Int.emod_emod]
 have:(r % (p:Int)) ^ i % (p:Int)=r ^ i % (p:Int):=by
  clear h1
  induction i with
  | zero=>rw[Int.pow_zero,Int.pow_zero]
  | succ i ih=>rw[Int.pow_succ,Int.pow_succ,Int.mul_emod,ih,Int.emod_emod,<- Int.mul_emod]
 rw[this];simp
theorem Fx (f:Nat->Int) (x:Int) (n:Nat):Pol.ps f x n=Dom.sm (fun i=>f i*x ^ i) n:=by
 induction n with
 | zero=>rfl
 | succ n ih=>simp only[Pol.ps,Dom.sm];rw[ih]
theorem jK{a b:Int} (h:(p:Int)∣a-b):a % (p:Int)=b % (p:Int):=by
 have:=Int.emod_eq_emod_iff_emod_sub_eq_zero (n:=(p:Int)) (m:=a) (k:=b);exact this.2 (Int.emod_eq_zero_of_dvd h)
theorem Jv (h3:3<=p) (zs:List Int) (r:Int):evz p zs r=dtz p zs.length (pwl p r zs.length) zs:=by
 unfold evz dtz;rw[Fx];apply jK;refine Dom.sm_congr (fun i hi=>?_);unfold pwl;rw[kZ _ _ _ hi];obtain⟨k,hk⟩:=aEj h3 r i
 exact⟨-(k*zat zs i),by
  rw[show ((Num.pwm p (el p r) i:Nat):Int)=(p:Int)*k+r ^ i from by omega]
  grind⟩
def wgL (p:Nat) (at':List Int):List Int:=ls (fun i=>Sum.wgt (zat at') at'.length i % (p:Int)) (2 ^ at'.length)
theorem Gi (p:Nat) (at':List Int):(wgL p at').length=2 ^ at'.length:=kQ _ _
theorem Gj (hm:p<=2147483647) (h3:3<=p) (at':List Int):Fits (wgL p at'):=fun i hi=>by
 rw[Gi] at hi;unfold wgL;rw[kZ _ _ _ hi];have:=qQ (Sum.wgt (zat at') at'.length i) p h3;omega
theorem Ok (f:Nat->Int) (n:Nat):Sum.prz f (n+1)=f 0*Sum.prz (fun k=>f (k+1)) n:=by
 induction n with
 | zero=>simp[Sum.prz]
 | succ n ih =>
  rw[Sum.prz,ih,Sum.prz]
  grind
theorem Jw (at':Nat->Int) (v i b:Nat) (hb:b<2):Sum.wgt at' (v+1) (2*i+b)=Sum.wgt at' v i*(if b=0 then 1-at' v else at' v):=by
 unfold Sum.wgt;rw[Ok,Int.mul_comm]
 congr 1
 ·refine Sum.prz_same (fun k hk=>?_)
  have h1:(2*i+b) / 2 ^ (k+1)=i / 2 ^ k:=by rw[Nat.pow_succ,Nat.mul_comm (2 ^ k) 2,<- Nat.div_div_eq_div_mul,show (2*i+b) / 2=i from by omega]
  rw[h1,show v+1-1-(k+1)=v-1-k from by omega]
 ·rw[show (2*i+b) / 2 ^ 0 % 2=b from by rw[Nat.pow_zero,Nat.div_one];omega,show v+1-1-0=v from by omega]
def smr (p n:Nat) (by':List Int) (rows:List (List Int)) (m:Nat):List Int:=ls (fun j=>dtz p n by' (pgc rows j)) m
theorem Gk (p n:Nat) (by':List Int) (rows:List (List Int)) (m:Nat):(smr p n by' rows m).length=m:=kQ _ _
theorem Dv (hm:p<=2147483647) (h3:3<=p) (n:Nat) (by':List Int) (rows:List (List Int)) (m:Nat):Fits (smr p n by' rows m):=fun i hi=>by
 rw[Gk] at hi;unfold smr;rw[kZ _ _ _ hi];have:=Lo p n by' (pgc rows i) h3
 omega
end Go.Proofs.YtkdndfbfmchcpaaGreatDoor
