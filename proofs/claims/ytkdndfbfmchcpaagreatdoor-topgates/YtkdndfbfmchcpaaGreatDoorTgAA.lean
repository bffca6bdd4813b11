
import Derived.Test.YtkdndfbfmchcpaaGreatDoorGtA
import Derived.Test.YtkdndfbfmchcpaaGreatDoorSpgs
import Derived.Shelf.Sort.Plain
import Derived.Shelf.Slices.CompactI
set_option maxRecDepth 1000000
set_option maxHeartbeats 8000000
namespace Go.Proofs.YtkdndfbfmchcpaaGreatDoor
variable {W:World}{p:Nat}{wide:Int}
open Go.RowKit
theorem Cb (n bound:Int) (w:World):Calls Tryz.prog 102 #[.int .i64 n,.int .i64 bound] w fun e w'=>e=.returned (.bool (decide (0<=n/\n<bound)))/\w'=w:=by
 by_cases h1:0<=n
 ·by_cases h2:n<bound
  ·rw[show decide (0<=n/\n<bound)=true from by simp[h1,h2]];go_enter Tryz.func102,Tryz.ntmps102;go_wp2_with fail;go_ret;exact⟨rfl,rfl⟩
  ·rw[show decide (0<=n/\n<bound)=false from by simp[h2]];go_enter Tryz.func102,Tryz.ntmps102;go_wp2_with fail;go_ret;exact⟨rfl,rfl⟩
 ·rw[show decide (0<=n/\n<bound)=false from by simp[h1]];go_enter Tryz.func102,Tryz.ntmps102;go_wp2_with fail;go_ret;exact⟨rfl,rfl⟩
theorem Wh (n:Nat) (w:World) (hn:n<=281474976710656):Calls Tryz.prog 105 #[.int .i64 (n:Int)] w fun e w'=>e=.returned (.bool (decide (0<=wdz n)))/\w'=w:=by
 by_cases h1:n<=64
 ·have HO:=hid (Fj n w (by omega));have h2:(n:Int)<=64:=by omega
  have HB:Hid ((((pnz n:Nat):Int)==1)=decide (0<=wdz n)):=by
   unfold Hid;rw[Bool.eq_iff_iff,beq_iff_eq,decide_eq_true_eq,Yx];constructor
   ·intro h;obtain⟨k,hk,rfl⟩:=(Eh (n:=n) (by omega)).1 (by omega);refine⟨k,?_,rfl⟩;rcases Nat.lt_or_ge 6 k with g | g
    ·have:2 ^ 7<=2 ^ k:=Nat.pow_le_pow_right (by omega) g;omega
    ·exact g
   ·rintro⟨v,hv,rfl⟩;rw[(Eh (by omega)).2 ⟨v,by omega,rfl⟩];rfl
  generalize pnz n=z at *;generalize decide (0<=wdz n)=B at *;go_enter Tryz.func105,Tryz.ntmps105;go_wp2_with fail;refine HO.out.mono ?_;rintro e w1 ⟨rfl,rfl⟩;go_wp2_with fail;go_ret;exact⟨by rw[<- HB.out];rfl,rfl⟩
 ·have h2:¬ (n:Int)<=64:=by omega
  have HB:decide (0<=wdz n)=false:=by rw[decide_eq_false_iff_not,Yx];rintro⟨v,hv,rfl⟩;have:=Dn hv;omega
  rw[HB];clear HB;go_enter Tryz.func105,Tryz.ntmps105;go_wp2_with fail;go_ret;exact⟨rfl,rfl⟩
theorem Wi (n cap:Nat) (a:Option Addr) (w:World) (hn:n<=281474976710656):Calls Tryz.prog 104 #[.slice a n cap] w fun e w'=>e=.returned (.bool (!(decide (0<=wdz n))))/\w'=w:=by
 have HI:=hid (Wh n w hn);generalize decide (0<=wdz n)=B at *;go_enter Tryz.func104,Tryz.ntmps104;go_wp2_with fail;refine HI.out.mono ?_;rintro e w1 ⟨rfl,rfl⟩;go_wp2_with fail;go_ret;exact⟨rfl,rfl⟩
def szB (lys:List (List GatZ)):Bool:=lys.all fun r=>decide (0<=wdz r.length)
theorem Ze{lys:List (List GatZ)} (h:∀ k,k<lys.length->0<=wdz (lyt lys k).length):szB lys=true:=by
 unfold szB;rw[List.all_eq_true];intro r hr;obtain⟨k,hk,rfl⟩:=List.mem_iff_getElem.1 hr;have:=h k hk;simp[lyt,hk] at this;simp[this]
theorem aBT{lys:List (List GatZ)} (h:szB lys=true) {k:Nat} (hk:k<lys.length):0<=wdz (lyt lys k).length:=by
 unfold szB at h;rw[List.all_eq_true] at h;have:=h lys[k] (List.getElem_mem hk);simp at this;simp[lyt,hk,this]
theorem aFm{lys:List (List GatZ)}{k:Nat} (hk:k<lys.length) (h:¬ 0<=wdz (lyt lys k).length):szB lys=false:=by
 cases e:szB lys with
 | false=>rfl
 | true=>exact absurd (aBT e hk) h
theorem Wj (cap:Nat) (a:Option Addr) (rows:List (List GatZ)) (w:World) (hlen:rows.length<=281474976710656) (hlens:∀ k,k<rows.length->(lyt rows k).length<=281474976710656) (hl:LstGG w.heap.size w a cap rows) :
  Calls Tryz.prog 138 #[.slice a rows.length cap,.func (.func 104) #[] #[]] w fun e w'=>(∃ r:Int,e=.returned (.int .i64 r)/\decide (0<=r)=!(szB rows))/\w'=w:=by
 have hcf:=xZ Tryz.func104 (by kernel_rfl) (by kernel_rfl);have HL:=hid hl;have HE1:Hid (∀ (k:Nat) (ak:Option Addr) (ck:Nat),k<rows.length->Calls Tryz.prog 104 #[.slice ak (lyt rows k).length ck] w fun e w'=>e=.returned (.bool (!(decide (0<=wdz (lyt rows k).length))))/\w'=w):=fun k ak ck hk=>Wi _ ck ak w (hlens k hk);obtain⟨n,hn⟩:=exE (rows.length);rw[<- hn] at hlen ⊢;have HN:=hid hn;obtain⟨R,hR⟩:=exE (szB rows);have HR:=hid hR;rw[<- hR];clear hl hn hR hlens;go_enter Tryz.func138,Tryz.ntmps138;go_wp2_with fail;go_loop [8] (fun iv=>∃ k:Nat,k<=n/\iv=.int .i64 k/\Hid (∀ j,j<k->0<=wdz (lyt rows j).length)) (fun iv=>n-(intOf iv).toNat)
 case atStart=>exact⟨0,by omega,rfl,fun j hj=>by omega⟩
 case round =>
  obtain⟨k,hk,rfl,hI⟩:=hrel;by_cases hlt:k<n
  ·have hlt2:(k:Int)<(n:Int):=by omega
   have hks:IntKind.i64.wrap ((k:Int)+1)=(k:Int)+1:=by rw[IntKind.wrap_i64];omega
   obtain⟨b0,o0,ak,ck,rfl,_,hc,_⟩:=HL.out.row k (by rw[<- HN.out];exact hlt);have HX:=HE1.out k ak ck (by rw[<- HN.out];exact hlt);by_cases hb:0<=wdz (lyt rows k).length
   ·have q:decide (0<=wdz (lyt rows k).length)=true:=by rw[decide_eq_true_eq];exact hb
    rw[q] at HX;have HXX:=hid HX
    have HE:Hid (∀ j,j<k+1->0<=wdz (lyt rows j).length):=fun j hj=>by
     by_cases e:j=k
     ·rw[e];exact hb
     ·exact hI.out j (by omega)
    clear hI HX hb q;generalize (lyt rows k).length=L at *;go_wp2_with fail;refine HXX.out.mono ?_;rintro e w1 ⟨rfl,rfl⟩;go_wp2_with fail
    go_round
    case rel=>exact⟨k+1,by omega,by go_num,HE⟩
    case measure=>simp[intOf];omega
   ·have q:decide (0<=wdz (lyt rows k).length)=false:=by rw[decide_eq_false_iff_not];exact hb
    rw[q] at HX;have HXX:=hid HX;have HE:Hid (R=false):=by unfold Hid;rw[HR.out];exact aFm (by rw[<- HN.out];exact hlt) hb
    clear hI HX hb q;generalize (lyt rows k).length=L at *;go_wp2_with fail;refine HXX.out.mono ?_;rintro e w1 ⟨rfl,rfl⟩;go_wp2_with fail;go_ret;refine⟨⟨(k:Int),rfl,?_⟩,rfl⟩;rw[HE.out];simp
  ·obtain rfl:k=n:=by omega
   have hlt2:¬ (k:Int)<(k:Int):=by omega
   have HE:Hid (R=true):=by unfold Hid;rw[HR.out];exact Ze (fun j hj=>hI.out j (by rw[HN.out];exact hj))
   clear hI;go_wp2_with fail;go_ret;refine⟨⟨-1,rfl,?_⟩,rfl⟩;rw[HE.out];simp
theorem No (cap:Nat) (a:Option Addr) (rows:List (List GatZ)) (w:World) (hlen:rows.length<=281474976710656) (hlens:∀ k,k<rows.length->(lyt rows k).length<=281474976710656) (hl:LstGG w.heap.size w a cap rows) :
  Calls Tryz.prog 103 #[.slice a rows.length cap,.func (.func 104) #[] #[]] w fun e w'=>e=.returned (.bool (!(szB rows)))/\w'=w:=by
 have HI:=hid (Wj cap a rows w hlen hlens hl);clear hl hlens;generalize szB rows=E at *;generalize rows.length=n at *;go_enter Tryz.func103,Tryz.ntmps103;go_wp2_with fail;refine HI.out.mono ?_;rintro e w1 ⟨⟨r,rfl,hr⟩,rfl⟩;have HRR:=hid hr;clear hr HI;go_wp2_with fail;go_ret;exact⟨by rw[<- HRR.out];rfl,rfl⟩
theorem qV{w:World}{cs:Array Value}{t:TypeId} (h:W=w.alloc (.cells cs t)):Below w.heap.size w W/\W.heap[w.heap.size]?=some (.cells cs t (0,0))/\W.heap.size=w.heap.size+1:=by
 subst h;exact⟨(Below.refl _ _).alloc (Nat.le_refl _) _,heap_alloc_new w _,by simp⟩
noncomputable def szD (wide:Int) (lys:List (List GatZ)):Bool:=@decide (SzC wide lys) (Classical.propDecidable _)
theorem Zf{lys:List (List GatZ)} (h:SzC wide lys):szD wide lys=true:=@decide_eq_true _ (Classical.propDecidable _) h
theorem Lg{lys:List (List GatZ)} (h:¬ SzC wide lys):szD wide lys=false:=@decide_eq_false _ (Classical.propDecidable _) h
noncomputable def gtD (wide:Int) (lys:List (List GatZ)):Bool:=@decide (GtC wide lys) (Classical.propDecidable _)
theorem Zg{lys:List (List GatZ)} (h:GtC wide lys):gtD wide lys=true:=@decide_eq_true _ (Classical.propDecidable _) h
theorem aBU{lys:List (List GatZ)} (h:¬ GtC wide lys):gtD wide lys=false:=@decide_eq_false _ (Classical.propDecidable _) h
theorem Pz (wide:Int) (cL:Nat) (aL:Option Addr) (lys:List (List GatZ)) (w:World) (hB:CirB lys) (hl:LstGG w.heap.size w aL cL lys) :
  Calls Tryz.prog 54 #[.agg #[.int .i64 wide,.slice aL lys.length cL]] w fun e w'=>e=.returned (.bool (szD wide lys))/\Below w.heap.size w w':=by
 obtain⟨W0,hW0⟩:=exE (w.alloc (.cells #[.int .i64 wide,.slice aL lys.length cL] 24));obtain⟨hb0,hs0,hz0⟩:=qV hW0;obtain⟨G,hG⟩:=exE (w.heap.size);rw[<- hG] at hs0;have c0:=clA 0 hs0 rfl;have c1:=clA 1 hs0 rfl;have HBW:=hid (Cb wide 7 W0);have HGC:=hid (No cL aL lys W0 hB.len hB.lens (hl.step hb0));have HB0:=hid hb0;have HWG:=hid hW0;have HG:=hid hG;have hlen:=hB.len;obtain⟨n,hn⟩:=exE (lys.length);have HN:=hid hn;rw[<- hn] at c1 HGC hlen HWG ⊢;by_cases h1:0<=wide/\wide<7
 ·have q1:decide (0<=wide/\wide<7)=true:=by rw[decide_eq_true_eq];exact h1
  rw[q1] at HBW;by_cases h2:n<1
  ·have h2':(n:Int)<1:=by omega
   rw[Lg (fun h=>by have:=h.2.1.1;omega)];clear hl hb0 hs0 hW0 hG hn hB q1 hz0 h1 h2;go_enter Tryz.func54,Tryz.ntmps54;go_wp2_with fail;rw[<- HG.out,<- HWG.out];refine HBW.out.mono ?_;rintro e w1 ⟨rfl,hw⟩;have hw1:=hw.symm;subst hw1;clear hw;go_wp2_with fail;go_ret;exact⟨rfl,HB0.out⟩
  ·have h2':¬ (n:Int)<1:=by omega
   by_cases h3:8<n
   ·have h3':(8:Int)<(n:Int):=by omega
    rw[Lg (fun h=>by have:=h.2.1.2;omega)];clear hl hb0 hs0 hW0 hG hn hB q1 hz0 h1 h2 h3;go_enter Tryz.func54,Tryz.ntmps54;go_wp2_with fail;rw[<- HG.out,<- HWG.out];refine HBW.out.mono ?_;rintro e w1 ⟨rfl,hw⟩;have hw1:=hw.symm;subst hw1;clear hw;go_wp2_with fail;go_ret;exact⟨rfl,HB0.out⟩
   ·have h3':¬ (8:Int)<(n:Int):=by omega
    have HS:Hid (szD wide lys=szB lys):=by
     unfold Hid;cases e:szB lys with
     | true=>exact Zf ⟨by omega,by omega,fun k hk=>aBT e hk⟩
     | false=>exact Lg (fun h=>by rw[Ze h.2.2] at e;cases e)
    generalize szD wide lys=D at *;generalize szB lys=E at *;clear hl hb0 hs0 hW0 hG hn hB q1 hz0 h1 h2 h3;go_enter Tryz.func54,Tryz.ntmps54;go_wp2_with fail;rw[<- HG.out,<- HWG.out];refine HBW.out.mono ?_;rintro e w1 ⟨rfl,hw⟩;have hw1:=hw.symm;subst hw1;clear hw;go_wp2_with fail;refine HGC.out.mono ?_;rintro e w1 ⟨rfl,hw⟩;have hw1:=hw.symm;subst hw1;clear hw;go_wp2_with fail;go_ret;exact⟨by rw[HS.out];simp,HB0.out⟩
 ·have q1:decide (0<=wide/\wide<7)=false:=by rw[decide_eq_false_iff_not];exact h1
  rw[q1] at HBW;rw[Lg (fun h=>by have:=h.1;omega)];clear hl hb0 hs0 hW0 hG hn hB q1 hz0 h1;go_enter Tryz.func54,Tryz.ntmps54;go_wp2_with fail;rw[<- HG.out,<- HWG.out];refine HBW.out.mono ?_;rintro e w1 ⟨rfl,hw⟩;have hw1:=hw.symm;subst hw1;clear hw;go_wp2_with fail;go_ret;exact⟨rfl,HB0.out⟩
open Go.RowKit Pol
theorem aBV (hp:Num.Prime p) (h3:3<=p) {z:Int} (h:¬ (p:Int)∣z):(p:Int)∣(yX p z:Int)*z-1:=by
 have hz:z % (p:Int)≠0:=fun e=>h (Int.dvd_of_emod_eq_zero e);have h1:0<el p z:=by have:=(qQ z p h3).1;unfold el;omega
 have h2:=Yv p z h3
 have key:yX p z*el p z % p=1:=by unfold yX;have:el p z=Num.pwm p (el p z) 1:=(Num.pwm_one p _ h2).symm;rw[show Num.pwm p (el p z) (p-2)*el p z=Num.pwm p (el p z) (p-2)*Num.pwm p (el p z) 1 from by rw[<- this],Num.pwm_add,show p-2+1=p-1 from by omega];exact Num.pwm_fermat hp h1 h2
 have e1:=Jr p z h3
 have d1:(p:Int)∣((yX p z*el p z:Nat):Int)-1:=by
  have hm:=Nat.div_add_mod (yX p z*el p z) p;rw[key] at hm;obtain⟨k,hk⟩:∃ k,p*k+1=yX p z*el p z:=⟨_,hm⟩
  rw[<- hk];exact⟨(k:Int),by push_cast;omega⟩
 have d2:(p:Int)∣(yX p z:Int)*(z % (p:Int)-z):=Int.dvd_mul_of_dvd_right (emod_dvd p z);have:=Int.dvd_sub d1 d2;rw[show ((yX p z*el p z:Nat):Int)-1-(yX p z:Int)*(z % (p:Int)-z)=(yX p z:Int)*z-1 from by push_cast;rw[e1];grind] at this;exact this
def bef (f:Nat->Int) (i:Nat):Int:=if i=0 then 0 else f (i-1)
def trf (p:Nat) (f:Nat->Int) (x:Int) (L k:Nat):Nat->Int:=fun j=>if L-k<=j/\j<L then (bef f j-f j*x % (p:Int)) % (p:Int) else f j
theorem aBW (p:Nat) (f:Nat->Int) (x:Int) (L:Nat):trf p f x L 0=f:=by
 funext j;unfold trf;rw[if_neg (by omega)]
theorem aBX (p:Nat) (f:Nat->Int) (x:Int) (L k:Nat) (hk:k<L):up (trf p f x L k) (L-1-k) ((bef f (L-1-k)-f (L-1-k)*x % (p:Int)) % (p:Int))=trf p f x L (k+1):=by
 funext j;unfold up trf
 by_cases h:j=L-1-k
 ·rw[if_pos h,if_pos (by omega),h]
 ·rw[if_neg h];by_cases h2:L-k<=j/\j<L
  ·rw[if_pos h2,if_pos (by omega)]
  ·rw[if_neg h2,if_neg (by omega)]
theorem aBY (p:Nat) (f:Nat->Int) (x:Int) (L k j:Nat) (h:j<L-k):trf p f x L k j=f j:=by unfold trf;rw[if_neg (by omega)]
theorem Wk (g L cap i:Nat) (f:Nat->Int) (w:World) (hi:i<L) (hL:L<=281474976710656) (hc:0<i->w.cell? ⟨g,i-1,none⟩=some (.int .i64 (f (i-1)))) :
  Calls Tryz.prog 188 #[.slice (some ⟨g,0,none⟩) L cap,.int .i64 i] w fun e w'=>e=.returned (.int .i64 (bef f i))/\w'=w:=by
 by_cases h0:i=0
 ·subst h0;clear hc;go_enter Tryz.func188,Tryz.ntmps188;go_wp2_with fail;go_ret;exact⟨xJ rfl,rfl⟩
 ·have hb:((i:Int)==0)=false:=by rw[beq_eq_false_iff_ne];omega
  have hcell:=hc (by omega);have HV:Hid (bef f i=f (i-1)):=by unfold Hid bef;rw[if_neg h0]
  obtain⟨j,hj⟩:=exE (i-1);have e1:(i:Int)-1=(j:Int):=by omega
  have e2:(j:Int)<(L:Int):=by omega
  rw[<- hj] at hcell HV;clear h0 hc hj;generalize f j=y at *;go_enter Tryz.func188,Tryz.ntmps188;go_wp2_with fail;go_ret;exact⟨xJ HV.out.symm,rfl⟩
theorem aAD (p b g n L cap:Nat) (f:Nat->Int) (x:Int) (w:World) (h3:3<=p) (hm:p<=2147483647) (hp:w.cell? ⟨b,0,none⟩=some (.int .i64 p)) (hbg:b≠g)
  (hn:n<=281474976710656) (hL:L<=n) (hf:∀ j,j<n->0<=f j/\f j<p) (hx1:-9223372036854775808<=x) (hx2:x<=9223372036854775807) (hC:Cells g 0 n f w) :
  Calls Tryz.prog 175 #[.pointer (some ⟨b,0,none⟩),.slice (some ⟨g,0,none⟩) L cap,.int .i64 x] w fun e w' =>
   e=.returned (.tuple #[])/\Cells g 0 n (trf p f x L L) w'/\Only g w w':=by
 have HF:=hid hf;have HC0:=hid hC;clear hf hC;go_enter Tryz.func175,Tryz.ntmps175;go_wp2_with fail
 go_loopw [10] (fun iv wr=>∃ (k:Nat),k<=L/\iv=.int .i64 k/\Hid (Cells g 0 n (trf p f x L k) wr)/\Hid (Only g w wr))
  (fun iv _=>L-(intOf iv).toNat)
 case atStart=>exact⟨0,Nat.zero_le _,rfl,by rw[aBW];exact HC0,Only.refl _ _⟩
 case round =>
  obtain⟨k,hk,rfl,hout,honly⟩:=hrel;by_cases hlt:k<L
  ·have hlt2:(k:Int)<(L:Int):=by omega
   have HS:=hid (aBX p f x L k hlt);obtain⟨i,hi⟩:=exE (L-1-k);rw[<- hi] at HS;have e1:(L:Int)-1-(k:Int)=(i:Int):=by omega
   have e2:(i:Int)<(L:Int):=by omega
   have hin:i<n:=by omega
   have hok:=hout.out.cells i hin;have hos:=hout.out.soft i hin;rw[Nat.zero_add] at hok hos;rw[aBY p f x L k i (by omega)] at hok;have hpc:=(honly.out.cell (p:=⟨b,0,none⟩) hbg).trans hp;obtain⟨hf1,hf2⟩:=HF.out i hin
   have hbf:0<=bef f i/\bef f i<p:=by
    unfold bef;split
    ·omega
    ·exact HF.out (i-1) (by omega)
   have HBF:Hid (∀ W:World,Only g wr W->W.heap[g]?=wr.heap[g]?->Calls Tryz.prog 188 #[.slice (some ⟨g,0,none⟩) L cap,.int .i64 i] W fun e w'=>e=.returned (.int .i64 (bef f i))/\w'=W):=fun W _ hb =>
    Wk g L cap i f W (by omega) (by omega) (fun h0=>by
     have:=(hout.out.block hb).cells (i-1) (by omega);rw[Nat.zero_add,aBY p f x L k (i-1) (by omega)] at this
     exact this)
   obtain⟨hb1,hb2⟩:=qQ (f i*x) p h3
   have HM:Hid (∀ w1:World,w1.cell? ⟨b,0,none⟩=some (.int .i64 p)->Calls Tryz.prog 78 #[.pointer (some ⟨b,0,none⟩),.int .i64 (f i),.int .i64 x] w1 fun e w'=>e=.returned (.int .i64 (f i*x % p))/\w'=w1) :=
    fun w1 h=>kK p b _ _ w1 h3 hm h (by omega) (by omega) hx1 hx2
   have HA:Hid (∀ w1:World,w1.cell? ⟨b,0,none⟩=some (.int .i64 p)->Calls Tryz.prog 109 #[.pointer (some ⟨b,0,none⟩),.int .i64 (bef f i),.int .i64 (f i*x % (p:Int))] w1 fun e w'=>e=.returned (.int .i64 ((bef f i-f i*x % (p:Int)) % p))/\w'=w1) :=
    fun w1 h=>Ej p b _ _ w1 h3 hm h (by omega) (by omega) (by omega) (by omega)
   have HC:=hid (hout.out.set ((bef f i-f i*x % (p:Int)) % (p:Int)) hin);have HB:=hid (honly.out.setCell (p:=⟨g,0+i,none⟩) rfl (.int .i64 ((bef f i-f i*x % (p:Int)) % (p:Int))));rw[show up (trf p f x L k) i ((bef f i-f i*x % (p:Int)) % (p:Int))=trf p f x L (k+1) from HS.out,Nat.zero_add] at HC;rw[Nat.zero_add] at HB;clear HS hi;generalize (bef f i-f i*x % (p:Int)) % (p:Int)=z at *;generalize f i*x % (p:Int)=yx at *;generalize bef f i=bf at *;generalize f i=fi at *;go_wp2_with fail
   go_region_with (first
    | (go_at_call 188;refine (HBF.out _ ?_ ?_).mono ?_;exact (Only.refl _ _).drew;rfl;rintro e w1 ⟨rfl,rfl⟩)
    | (go_at_call 78;refine (HM.out _ ?_).mono ?_;exact hpc;rintro e w1 ⟨rfl,rfl⟩)
    | (go_at_call 109;refine (HA.out _ ?_).mono ?_;exact hpc;rintro e w1 ⟨rfl,rfl⟩))
   all_goals
    go_wp2_with fail;go_roundw
    case rel=>exact⟨k+1,by omega,by go_num,HC.out.drew,HB.out.drew⟩
    case measure=>simp[intOf];omega
  ·have hlt2:¬ (k:Int)<(L:Int):=by omega
   obtain rfl:k=L:=by omega
   go_wp2_with fail;go_end0;exact⟨rfl,hout.out,honly.out⟩
def vn (p:Nat) (xs:List Int) (n:Nat):Nat->Int:=fun j=>Pol.van (zat xs) n j % (p:Int)
theorem aDX (p:Nat) (xs:List Int) (h3:3<=p):vn p xs 0=fun j=>if j=0 then 1 else 0:=by
 funext j;unfold vn;simp only[Pol.van,Pol.one]
 split
 ·exact Int.emod_eq_of_lt (by omega) (by omega)
 ·simp
theorem aDY (p:Nat) (xs:List Int) (n:Nat):trf p (vn p xs n) (zat xs n) (n+2) (n+2)=vn p xs (n+1):=by
 funext j
 unfold trf bef vn;rw[Pol.van,Pol.mul_lin];simp only[Pol.sub,Pol.sh,Pol.sc];by_cases h:j<n+2
 ·rw[if_pos (by omega)];by_cases h0:j=0
  ·subst h0;rw[if_pos rfl,if_pos (by omega),Int.sub_emod 0,Int.emod_emod_of_dvd _ (Int.dvd_refl _),Int.mul_emod,Int.emod_emod_of_dvd _ (Int.dvd_refl _),<- Int.mul_emod,<- Int.sub_emod,Int.mul_comm]
  ·rw[if_neg h0,if_neg (by omega),Int.sub_emod,Int.emod_emod_of_dvd _ (Int.dvd_refl _),Int.emod_emod_of_dvd _ (Int.dvd_refl _),Int.mul_emod,Int.emod_emod_of_dvd _ (Int.dvd_refl _),<- Int.mul_emod,<- Int.sub_emod,Int.mul_comm]
 ·rw[if_neg (by omega),if_neg (by omega),Pol.van_zero _ _ _ (by omega),Pol.van_zero _ _ _ (by omega)];simp
theorem aAE (p:Nat) (xs:List Int) (n j:Nat) (h3:3<=p):0<=vn p xs n j/\vn p xs n j<p:=qQ _ p h3
def Aw (p:Nat) (xs:List Int):List Int:=Pol.mk p (Pol.van (zat xs) xs.length) (xs.length+1)
theorem Co (h3:3<=p) (xs:List Int):(Aw p xs).length=xs.length+1/\∀ j,j<xs.length+1->zat (Aw p xs) j=vn p xs xs.length j:=by
 have hl:(Aw p xs).length=xs.length+1:=by rw[Aw,Pol.mk_length];refine Pol.tp_unique p _ _ _ (Nat.le_refl _) (fun j h1 h2=>by omega) (fun _=>?_);rw[Nat.add_sub_cancel,Pol.van_top,Int.emod_eq_of_lt (by omega) (by omega)];omega
 refine⟨hl,fun j hj=>?_⟩;rw[<- hl,Aw,Pol.mk_length] at hj;exact Pol.mk_at p _ _ j hj
theorem Wl (p b cap:Nat) (a:Option Addr) (xs:List Int) (w:World) (h3:3<=p) (hm:p<=2147483647) (hp:w.cell? ⟨b,0,none⟩=some (.int .i64 p))
  (hn:xs.length<=17592186043904) (hfit:Fits xs) (hrow:RowB w.heap.size w a xs) :
  Calls Tryz.prog 148 #[.pointer (some ⟨b,0,none⟩),.slice a xs.length cap] w fun e w'=>e=.returned (.slice (some ⟨w.heap.size,0,none⟩) (Aw p xs).length (Aw p xs).length) /\
   Cells w.heap.size 0 (Aw p xs).length (zat (Aw p xs)) w'/\Below w.heap.size w w'/\w'.heap.size=w.heap.size+1:=by
 have hb:b<w.heap.size:=qK hp;obtain⟨hl,hz⟩:=Co h3 xs;rw[hl];have HZ:=hid hz;have HF:=hid hfit;have HR:=hid hrow;clear hz hl hfit hrow;have hmk:=fun n h1 h2 w=>run_make_row' (P:=Tryz.prog) 25 3 (.int .i64 0) 8 Tryz.underlying25 Tryz.infoInt rfl .i64 .i64 n h1 h2 w;have hmk2:=hmk (xs.length+1) (by omega) (by omega);clear hmk;obtain⟨m,hmd⟩:=exE (xs.length+1);rw[<- hmd] at hmk2 HZ ⊢;have HMD:=hid hmd;have e0:(xs.length:Int)+1=(m:Int):=by omega
 have e1:(0:Int)<(m:Int):=by omega
 have hml:m<=17592186043905:=by omega
 clear hmd
 have hc0:(w.alloc (.cells (madeCells #[.int .i64 0] m) 3)).cell? ⟨w.heap.size,0,none⟩=some (.int .i64 0):=by rw[World.cell?_alloc_at _ _ _ _ (by simp)];simp[madeCells,Nat.mod_one,show 0<m by omega]
 have hs0:(w.alloc (.cells (madeCells #[.int .i64 0] m) 3)).frozen? ⟨w.heap.size,0,none⟩=false:=by simp
 go_enter Tryz.func148,Tryz.ntmps148;go_wp2_with fail
 go_loopw [16] (fun iv wr=>∃ (k:Nat),k<=xs.length/\iv=.int .i64 k/\Hid (Cells w.heap.size 0 m (vn p xs k) wr)/\Hid (Below w.heap.size w wr)/\wr.heap.size=w.heap.size+1)
  (fun iv _=>xs.length-(intOf iv).toNat)
 case atStart =>
  refine⟨0,Nat.zero_le _,rfl,⟨fun j hj=>?_,fun j hj=>by simp⟩,(Below.refl w.heap.size w).alloc (Nat.le_refl _) _,by simp⟩;rw[World.cell?_alloc_at _ _ _ _ (by simp),aDX p xs h3];by_cases h0:j=0
  ·subst h0;simp[madeCells,hj]
  ·simp[madeCells,hj,Nat.mod_one,h0,show ¬ 0=j from fun e=>h0 e.symm]
 case round =>
  obtain⟨k,hk,rfl,hout,hbel,hsz⟩:=hrel;by_cases hlt:k<xs.length
  ·have hlt2:(k:Int)<(xs.length:Int):=by omega
   obtain⟨bl,ol,rfl,hbl,hcl⟩:=HR.out k hlt;have hcl2:=(hbel.out.cell (p:=⟨bl,ol+k,none⟩) hbl).trans hcl;obtain⟨hx1,hx2⟩:=HF.out k hlt;have hpc:=(hbel.out.cell (p:=⟨b,0,none⟩) hb).trans hp;have hkm:k+2<=m:=by have:=HMD.out;omega
   have HT:=hid (aAD p b w.heap.size m (k+2) m (vn p xs k) (zat xs k) wr h3 hm hpc (by omega) (by omega) hkm (fun j _=>aAE p xs k j h3) hx1 hx2 hout.out);rw[aDY] at HT;obtain⟨L,hL⟩:=exE (k+2);rw[<- hL] at HT;have e2:(k:Int)+2=(L:Int):=by omega
   have e3:(L:Int)<=(m:Int):=by omega
   have hLl:L<=m:=by omega
   clear hL hcl;generalize zat xs k=x at *;go_wp2_with fail;refine HT.out.mono ?_;rintro e w2 ⟨rfl,hc2,ho2⟩;have HC2:=hid hc2;have HB2:Hid (Below w.heap.size w w2):=hbel.out.trans (ho2.below (Nat.le_refl _));have hs2:w2.heap.size=w.heap.size+1:=by rw[ho2.size];exact hsz
   clear hc2 ho2;go_wp2_with fail;go_roundw
   case rel=>exact⟨k+1,by omega,by go_num,HC2,HB2,hs2⟩
   case measure=>simp[intOf];omega
  ·have hlt2:¬ (k:Int)<(xs.length:Int):=by omega
   obtain rfl:k=xs.length:=by omega
   go_wp2_with fail;go_ret;exact⟨rfl,hout.out.congr (fun j hj=>(HZ.out j hj).symm),hbel.out,hsz⟩
theorem Cells.drewN{g o n:Nat}{f:Nat->Int} (h:Cells g o n f W) (k:Nat):Cells g o n f (W.drewN k):=⟨h.cells,h.soft⟩
theorem aBZ{f:Nat->Int} (x:Int) (n m:Nat) (hnm:n<=m) (h:∀ j,n<=j->j<m->(p:Int)∣f j):(p:Int)∣Pol.ps f x m-Pol.ps f x n:=by
 induction m with
 | zero=>obtain rfl:n=0:=by omega
         simp
 | succ m ih =>
  by_cases e:n=m+1
  ·subst e;simp
  ·have:=Int.dvd_add (ih (by omega) (fun j h1 h2=>h j h1 (by omega))) (Int.dvd_mul_of_dvd_left (c:=x ^ m) (h m (by omega) (by omega)));simp only[Pol.ps]
   rwa [show Pol.ps f x m-Pol.ps f x n+f m*x ^ m=Pol.ps f x m+f m*x ^ m-Pol.ps f x n from by omega] at this
theorem Qa (h3:3<=p) (F:Nat->Int) (N:Nat) (x:Int):evz p (Pol.mk p F N) x=Pol.ps F x N % (p:Int):=by
 unfold evz;rw[Pol.mk_length];refine (Pol.emod_eq_iff (by omega)).2 ?_
 have h1:(p:Int)∣Pol.ps (zat (Pol.mk p F N)) x (Pol.tp p F N)-Pol.ps F x (Pol.tp p F N):=Pol.ps_congr x _ (fun j hj=>by
  rw[show zat (Pol.mk p F N) j=(Pol.mk p F N).getD j 0 from rfl,Pol.mk_at p F N j hj]
  exact Pol.emod_dvd p _)
 have h2:=aBZ (p:=p) (f:=F) x (Pol.tp p F N) N (Pol.tp_le p F N) (fun j h1 h2=>Pol.emod_zero_iff.1 (Pol.tp_behind p F N j h1 h2));have:=Int.dvd_sub h1 h2
 rwa [show ∀ a b c:Int,a-b-(c-b)=a-c from fun a b c=>by omega] at this
def Et (p:Nat) (xs:List Int) (k i:Nat):List Int:=Pol.mk p (Pol.vsk (zat xs) k i) (i+1)
theorem aCa (h3:3<=p) (xs:List Int) (k:Nat) (hk:k<xs.length):evz p (pdv p (Aw p xs)) (zat xs k)=evz p (Et p xs k xs.length) (zat xs k):=by
 have hl:=(Co h3 xs).1;unfold pdv Et;rw[Qa h3,Qa h3,hl,Nat.add_sub_cancel];refine (Pol.emod_eq_iff (by omega)).2 ?_
 have h1:(p:Int)∣Pol.ps (Pol.dv (Pol.cf (Aw p xs))) (zat xs k) xs.length-Pol.ps (Pol.dv (Pol.van (zat xs) xs.length)) (zat xs k) xs.length:=Pol.ps_congr _ _ (fun j hj=>by
  simp only[Pol.dv];have e:Pol.cf (Aw p xs) (j+1)=vn p xs xs.length (j+1):=(Co h3 xs).2 (j+1) (by omega);rw[e];obtain⟨c,hc⟩:=Pol.emod_dvd p (Pol.van (zat xs) xs.length (j+1))
  exact⟨c*((j:Int)+1),by rw[show vn p xs xs.length (j+1)=Pol.van (zat xs) xs.length (j+1) % (p:Int) from rfl,<- Int.sub_mul,hc];grind⟩)
 have h2:=Pol.slope (zat xs) k xs.length hk xs.length;have h0:=Pol.vsk_zero (zat xs) k xs.length xs.length hk (Nat.le_refl _);rw[h0] at h2
 have h4:Pol.ps (Pol.vsk (zat xs) k xs.length) (zat xs k) (xs.length+1)=Pol.ps (Pol.vsk (zat xs) k xs.length) (zat xs k) xs.length:=by rw[Pol.ps,h0];simp
 rw[h4];rw[h2] at h1
 rwa [show Pol.ps (Pol.vsk (zat xs) k xs.length) (zat xs k) xs.length-(xs.length:Int)*(0*zat xs k ^ xs.length)=Pol.ps (Pol.vsk (zat xs) k xs.length) (zat xs k) xs.length from by simp] at h1
def sd (p:Nat) (zs:List Int) (root:Int) (n:Nat):Nat->Int
 | 0=>0
 | i+1=>(zat zs (n-i)+sd p zs root n i*root % (p:Int)) % (p:Int)
theorem Oe (p:Nat) (zs:List Int) (root:Int) (n i:Nat) (h3:3<=p):0<=sd p zs root n i/\sd p zs root n i<p:=by
 cases i with
 | zero=>simp only[sd];omega
 | succ i=>exact qQ _ p h3
theorem aFn (h3:3<=p) (xs:List Int) (k:Nat) (hk:k<xs.length) (i:Nat) (hi:i<=xs.length):sd p (Aw p xs) (zat xs k) xs.length i=Pol.vsk (zat xs) k xs.length (xs.length-i) % (p:Int):=by
 induction i with
 | zero=>rw[sd,Nat.sub_zero,Pol.vsk_zero _ _ _ _ hk (Nat.le_refl _)];simp
 | succ i ih =>
  rw[sd,ih (by omega),(Co h3 xs).2 (xs.length-i) (by omega)];have:=Pol.vsk_down (zat xs) k xs.length (xs.length-(i+1)) hk;rw[show xs.length-(i+1)+1=xs.length-i from by omega] at this;rw[this];unfold vn;rw[Int.mul_emod (Pol.vsk (zat xs) k xs.length (xs.length-i) % (p:Int)),Int.emod_emod_of_dvd _ (Int.dvd_refl _),<- Int.mul_emod,<- Int.add_emod]
def awf (p:Nat) (f:Nat->Int) (zs:List Int) (root times:Int) (n k:Nat):Nat->Int:=fun j=>if n-k<=j/\j<n then (f j+sd p zs root n (n-j)*times % (p:Int)) % (p:Int) else f j
theorem aCb (p:Nat) (f:Nat->Int) (zs:List Int) (root times:Int) (n:Nat):awf p f zs root times n 0=f:=by
 funext j;unfold awf;rw[if_neg (by omega)]
theorem aCc (p:Nat) (f:Nat->Int) (zs:List Int) (root times:Int) (n k:Nat) (hk:k<n):up (awf p f zs root times n k) (n-1-k) ((f (n-1-k)+sd p zs root n (k+1)*times % (p:Int)) % (p:Int))=awf p f zs root times n (k+1):=by
 funext j;unfold up awf
 by_cases h:j=n-1-k
 ·rw[if_pos h,if_pos (by omega),h,show n-(n-1-k)=k+1 from by omega]
 ·rw[if_neg h];by_cases h2:n-k<=j/\j<n
  ·rw[if_pos h2,if_pos (by omega)]
  ·rw[if_neg h2,if_neg (by omega)]
theorem aFo (p:Nat) (f:Nat->Int) (zs:List Int) (root times:Int) (n k j:Nat) (h:j<n-k):awf p f zs root times n k j=f j:=by unfold awf;rw[if_neg (by omega)]
theorem aDZ (p b g n c1 c2:Nat) (a:Option Addr) (f:Nat->Int) (zs:List Int) (root times:Int) (w:World) (h3:3<=p) (hm:p<=2147483647) (hp:w.cell? ⟨b,0,none⟩=some (.int .i64 p)) (hbg:b≠g)
  (hn:n+1=zs.length) (hnl:n<=281474976710655) (hf:∀ j,j<n->0<=f j/\f j<p) (hz:Fits zs) (hx1:-9223372036854775808<=root) (hx2:root<=9223372036854775807) (ht1:-9223372036854775808<=times) (ht2:times<=9223372036854775807)
  (hC:Cells g 0 n f w) (hr:Ry (·≠g) w a zs) :
  Calls Tryz.prog 151 #[.pointer (some ⟨b,0,none⟩),.slice (some ⟨g,0,none⟩) n c1,.slice a zs.length c2,.int .i64 root,.int .i64 times] w fun e w' =>
   e=.returned (.tuple #[])/\Cells g 0 n (awf p f zs root times n n) w'/\Only g w w':=by
 have HF:=hid hf;have HZ:=hid hz;have HR:=hid hr;have HC0:=hid hC;have HN:=hid hn;clear hf hz hr hC hn;go_enter Tryz.func151,Tryz.ntmps151;go_wp2_with fail
 go_loopw [10,15] (fun pv iv wr=>∃ (k:Nat),k<=n/\iv=.int .i64 k/\pv=.int .i64 (sd p zs root n k)/\Hid (Cells g 0 n (awf p f zs root times n k) wr)/\Hid (Only g w wr))
  (fun _ iv _=>n-(intOf iv).toNat)
 case atStart=>exact⟨0,Nat.zero_le _,rfl,rfl,by rw[aCb];exact HC0,Only.refl _ _⟩
 case round =>
  obtain⟨k,hk,rfl,rfl,hout,honly⟩:=hrel;by_cases hlt:k<n
  ·have hlt2:(k:Int)<(n:Int):=by omega
   have HS:=hid (aCc p f zs root times n k hlt);have HSD:Hid ((zat zs (n-k)+sd p zs root n k*root % (p:Int)) % (p:Int)=sd p zs root n (k+1)):=rfl;obtain⟨i,hi⟩:=exE (n-1-k);rw[<- hi] at HS;rw[show n-k=i+1 from by omega] at HSD;have e1:(n:Int)-1-(k:Int)=(i:Int):=by omega
   have e2:(i:Int)<(n:Int):=by omega
   have e3:(i:Int)+1<(zs.length:Int):=by have:=HN.out;omega
   have e4:((i:Int)+1).toNat=i+1:=by omega
   have hin:i<n:=by omega
   have hi1:i+1<zs.length:=by have:=HN.out;omega
   obtain⟨bl,ol,rfl,hbl,hcl⟩:=HR.out (i+1) hi1;have hcl2:=(honly.out.cell (p:=⟨bl,ol+(i+1),none⟩) hbl).trans hcl;have hok:=hout.out.cells i hin;have hos:=hout.out.soft i hin;rw[Nat.zero_add] at hok hos;rw[aFo p f zs root times n k i (by omega)] at hok;have hpc:=(honly.out.cell (p:=⟨b,0,none⟩) hbg).trans hp;obtain⟨hf1,hf2⟩:=HF.out i hin;obtain⟨hz1,hz2⟩:=HZ.out (i+1) hi1;obtain⟨hs1,hs2⟩:=Oe p zs root n k h3;obtain⟨hs3,hs4⟩:=Oe p zs root n (k+1) h3;obtain⟨hb1,hb2⟩:=qQ (sd p zs root n k*root) p h3;obtain⟨hb3,hb4⟩:=qQ (sd p zs root n (k+1)*times) p h3
   have HM1:Hid (∀ w1:World,w1.cell? ⟨b,0,none⟩=some (.int .i64 p)->Calls Tryz.prog 78 #[.pointer (some ⟨b,0,none⟩),.int .i64 (sd p zs root n k),.int .i64 root] w1 fun e w'=>e=.returned (.int .i64 (sd p zs root n k*root % p))/\w'=w1) :=
    fun w1 h=>kK p b _ _ w1 h3 hm h (by omega) (by omega) hx1 hx2
   have HA1:Hid (∀ w1:World,w1.cell? ⟨b,0,none⟩=some (.int .i64 p)->Calls Tryz.prog 64 #[.pointer (some ⟨b,0,none⟩),.int .i64 (zat zs (i+1)),.int .i64 (sd p zs root n k*root % (p:Int))] w1 fun e w'=>e=.returned (.int .i64 ((zat zs (i+1)+sd p zs root n k*root % (p:Int)) % p))/\w'=w1) :=
    fun w1 h=>yV p b _ _ w1 h3 hm h hz1 hz2 (by omega) (by omega)
   rw[HSD.out] at HA1
   have HM2:Hid (∀ w1:World,w1.cell? ⟨b,0,none⟩=some (.int .i64 p)->Calls Tryz.prog 78 #[.pointer (some ⟨b,0,none⟩),.int .i64 (sd p zs root n (k+1)),.int .i64 times] w1 fun e w'=>e=.returned (.int .i64 (sd p zs root n (k+1)*times % p))/\w'=w1) :=
    fun w1 h=>kK p b _ _ w1 h3 hm h (by omega) (by omega) ht1 ht2
   have HA2:Hid (∀ w1:World,w1.cell? ⟨b,0,none⟩=some (.int .i64 p)->Calls Tryz.prog 64 #[.pointer (some ⟨b,0,none⟩),.int .i64 (f i),.int .i64 (sd p zs root n (k+1)*times % (p:Int))] w1 fun e w'=>e=.returned (.int .i64 ((f i+sd p zs root n (k+1)*times % (p:Int)) % p))/\w'=w1) :=
    fun w1 h=>yV p b _ _ w1 h3 hm h (by omega) (by omega) (by omega) (by omega)
   have HC:Hid (∀ m:Nat,Cells g 0 n (awf p f zs root times n (k+1)) ((wr.drewN m).setCell ⟨g,i,none⟩ (.int .i64 ((f i+sd p zs root n (k+1)*times % (p:Int)) % (p:Int))))):=fun m=>by have:=(hout.out.drewN m).set ((f i+sd p zs root n (k+1)*times % (p:Int)) % (p:Int)) hin;rw[HS.out,Nat.zero_add] at this;exact this
   have HB:Hid (∀ m:Nat,Only g w ((wr.drewN m).setCell ⟨g,i,none⟩ (.int .i64 ((f i+sd p zs root n (k+1)*times % (p:Int)) % (p:Int))))):=fun m=>(honly.out.drewN m).setCell rfl _;clear HS HSD hi hcl;generalize (f i+sd p zs root n (k+1)*times % (p:Int)) % (p:Int)=z at *;generalize sd p zs root n (k+1)*times % (p:Int)=yt at *;generalize hsn:sd p zs root n (k+1)=sn at *;generalize sd p zs root n k*root % (p:Int)=yx at *;generalize sd p zs root n k=s0 at *;generalize f i=fi at *;generalize zat zs (i+1)=zi at *;have HSN:=hid hsn;clear hsn;go_wp2_with fail
   go_quiet (first
    | (go_at_call 78;exact Calls.quiet_of_same (HM1.out _ hpc))
    | (go_at_call 64;exact Calls.quiet_of_same (HA1.out _ hpc)))
   go_wp2_with fail
   go_region_with (first
    | (go_at_call 78;refine (HM2.out _ ?_).mono ?_;exact hpc;rintro e w1 ⟨rfl,rfl⟩)
    | (go_at_call 64;refine (HA2.out _ ?_).mono ?_;exact hpc;rintro e w1 ⟨rfl,rfl⟩))
   all_goals
    go_wp2_with fail;go_roundw
    case rel=>exact⟨k+1,by omega,by go_num,by rw[HSN.out],(HC.out nq).drew,(HB.out nq).drew⟩
    case measure=>simp[intOf];omega
  ·have hlt2:¬ (k:Int)<(n:Int):=by omega
   obtain rfl:k=n:=by omega
   go_wp2_with fail;go_end0;exact⟨rfl,hout.out,honly.out⟩
theorem Wm (p b c1 c2:Nat) (a1 a2:Option Addr) (zs xs:List Int) (w:World) (h3:3<=p) (hm:p<=2147483647) (hp:w.cell? ⟨b,0,none⟩=some (.int .i64 p))
  (hn:zs.length<=17592186044416) (hn2:xs.length<=17592186044416) (hf1:Fits zs) (hf2:Fits xs) (hr1:RowB w.heap.size w a1 zs) (hr2:RowB w.heap.size w a2 xs) :
  Calls Tryz.prog 150 #[.pointer (some ⟨b,0,none⟩),.slice a1 zs.length c1,.slice a2 xs.length c2] w fun e w' =>
   e=.returned (.slice (some ⟨w.heap.size+1,0,none⟩) xs.length xs.length)/\Cells (w.heap.size+1) 0 xs.length (fun j=>evz p (pdv p zs) (zat xs j)) w'/\Below w.heap.size w w'/\w.heap.size+1<w'.heap.size:=by
 have hb:b<w.heap.size:=qK hp;have HD:=hid (Wc p b c1 (·<w.heap.size) a1 zs w h3 hm hp hn hf1 hr1 (fun _ h=>h));have HF:=hid hf2;have HR:=hid hr2;have hpl:(pdv p zs).length<=17592186044416:=by have:=Pol.tp_le p (Pol.dv (Pol.cf zs)) (zs.length-1);rw[pdv,Pol.mk_length];omega
 have HPF:Hid (Fits (pdv p zs)):=Ky hm (Pol.mk_can (by omega) _ _);clear hf1 hf2 hr1 hr2;generalize pdv p zs=ds at *;have hmk:=fun n h1 h2 w=>run_make_row' (P:=Tryz.prog) 25 3 (.int .i64 0) 8 Tryz.underlying25 Tryz.infoInt rfl .i64 .i64 n h1 h2 w;have hmk2:=hmk xs.length (by omega) (by omega);clear hmk;go_enter Tryz.func150,Tryz.ntmps150;go_wp2_with fail;refine HD.out.mono ?_;rintro e w1 ⟨cd,rfl,_,hcd,hb1,hs1⟩;have HCD:=hid hcd;have HB1:=hid hb1;clear hcd hb1 HD;go_wp2_with fail
 go_loopw [19] (fun iv wr=>∃ (k:Nat) (o:Nat->Int),k<=xs.length/\iv=.int .i64 k/\Hid (Cells (w.heap.size+1) 0 xs.length o wr)/\Hid (∀ j,j<k->o j=evz p ds (zat xs j))/\Hid (Cells w.heap.size 0 ds.length (zat ds) wr)/\Hid (Below w.heap.size w wr)/\w.heap.size+1<wr.heap.size)
  (fun iv _=>xs.length-(intOf iv).toNat)
 case atStart =>
  refine⟨0,fun _=>0,Nat.zero_le _,rfl,⟨fun j hj=>?_,fun j hj=>?_⟩,fun j hj=>by omega,HCD.out.below ((Below.refl w1.heap.size w1).alloc (Nat.le_refl _) _) (by omega),HB1.out.trans ((Below.refl w.heap.size w1).alloc (by omega) _),by simp;omega⟩
  ·rw[<- hs1,World.cell?_alloc_at _ _ _ _ (by simp)];simp[madeCells,hj,Nat.mod_one]
  ·rw[<- hs1];simp
 case round =>
  obtain⟨k,o,hk,rfl,hout,hoj,hcd,hbel,hsz⟩:=hrel;by_cases hlt:k<xs.length
  ·have hlt2:(k:Int)<(xs.length:Int):=by omega
   obtain⟨bl,ol,rfl,hbl,hcl⟩:=HR.out k hlt;have hcl2:=(hbel.out.cell (p:=⟨bl,ol+k,none⟩) hbl).trans hcl;have hok:=hout.out.cells k hlt;have hos:=hout.out.soft k hlt;rw[Nat.zero_add] at hok hos;have hpc:=(hbel.out.cell (p:=⟨b,0,none⟩) hb).trans hp;obtain⟨hx1,hx2⟩:=HF.out k hlt;have HE:=hid (Fz p b cd (·=w.heap.size) (some ⟨w.heap.size,0,none⟩) ds (zat xs k) wr h3 hm hpc (by omega) HPF.out hx1 hx2 (fun j hj=>⟨w.heap.size,0,rfl,rfl,hcd.out.cells j hj⟩))
   have HC:Hid (∀ m:Nat,Cells (w.heap.size+1) 0 xs.length (up o k (evz p ds (zat xs k))) ((wr.drewN m).setCell ⟨w.heap.size+1,k,none⟩ (.int .i64 (evz p ds (zat xs k))))):=fun m=>by have:=(hout.out.drewN m).set (evz p ds (zat xs k)) hlt;rw[Nat.zero_add] at this;exact this
   have HO:Hid (∀ m:Nat,Only (w.heap.size+1) wr ((wr.drewN m).setCell ⟨w.heap.size+1,k,none⟩ (.int .i64 (evz p ds (zat xs k))))):=fun m=>((Only.refl (w.heap.size+1) wr).drewN m).setCell (p:=⟨w.heap.size+1,k,none⟩) rfl _
   have HJ:Hid (∀ j,j<k+1->up o k (evz p ds (zat xs k)) j=evz p ds (zat xs j)):=fun j hj=>by
    unfold up;by_cases hjk:j=k
    ·rw[if_pos hjk,hjk]
    ·rw[if_neg hjk];exact hoj.out j (by omega)
   clear hcl;generalize evz p ds (zat xs k)=ev at *;generalize zat xs k=x at *;go_wp2_with fail;refine HE.out.mono ?_;rintro e w2 ⟨rfl,m,rfl⟩;go_wp2_with fail;go_roundw
   case rel=>exact⟨k+1,_,by omega,by go_num,HC.out m,HJ,hcd.out.only (HO.out m) (by omega),hbel.out.trans ((HO.out m).below (by omega)),by have:=(HO.out m).size;omega⟩
   case measure=>simp[intOf];omega
  ·have hlt2:¬ (k:Int)<(xs.length:Int):=by omega
   go_wp2_with fail;go_ret;exact⟨rfl,hout.out.congr (fun j hj=>hoj.out j (by omega)),hbel.out,hsz⟩
end Go.Proofs.YtkdndfbfmchcpaaGreatDoor
namespace Go.Proofs
open Go.Shelf
def Tryz.lays189_ren:Go.Shelf.Ren:=⟨fun | 189=>90 | 125=>99 | 257=>135 | 128=>136 | 129=>137 | 294=>166 | 295=>167 | 296=>168 | 297=>169 | 298=>170 | 299=>171 | 216=>172 | 300=>173 | 301=>174 | 328=>182 | 329=>183 | 330=>184 | 331=>185 | 332=>186 | 215=>187 | 343=>190 | n=>n,fun | 28=>25 | 3=>3 | 46=>123 | 0=>0 | 51=>145 | 53=>147 | 4=>4 | 183=>210 | 182=>209 | 131=>56 | 5=>5 | 9=>9 | 218=>222 | 222=>226 | 228=>228 | 229=>229 | n=>n,fun | n=>n⟩
theorem Tryz.lays189:Go.Proofs.Lays.n189 Tryz.prog Tryz.lays189_ren:={
 mixed:=by kernel_rfl
 f125:=Tryz.func99.trans (congrArg some (by kernel_rfl))
 f128:=Tryz.func136.trans (congrArg some (by kernel_rfl))
 f129:=Tryz.func137.trans (congrArg some (by kernel_rfl))
 f189:=Tryz.func90.trans (congrArg some (by kernel_rfl))
 f215:=Tryz.func187.trans (congrArg some (by kernel_rfl))
 f216:=Tryz.func172.trans (congrArg some (by kernel_rfl))
 f257:=Tryz.func135.trans (congrArg some (by kernel_rfl))
 f294:=Tryz.func166.trans (congrArg some (by kernel_rfl))
 f295:=Tryz.func167.trans (congrArg some (by kernel_rfl))
 f296:=Tryz.func168.trans (congrArg some (by kernel_rfl))
 f297:=Tryz.func169.trans (congrArg some (by kernel_rfl))
 f298:=Tryz.func170.trans (congrArg some (by kernel_rfl))
 f299:=Tryz.func171.trans (congrArg some (by kernel_rfl))
 f300:=Tryz.func173.trans (congrArg some (by kernel_rfl))
 f301:=Tryz.func174.trans (congrArg some (by kernel_rfl))
 f328:=Tryz.func182.trans (congrArg some (by kernel_rfl))
 f329:=Tryz.func183.trans (congrArg some (by kernel_rfl))
 f330:=Tryz.func184.trans (congrArg some (by kernel_rfl))
 f331:=Tryz.func185.trans (congrArg some (by kernel_rfl))
 f332:=Tryz.func186.trans (congrArg some (by kernel_rfl))
 f343:=Tryz.func190.trans (congrArg some (by kernel_rfl))
 t0:=Tryz.underlying0
 a0:=Tryz.isAgg0
 z0:=Tryz.sizeOf0
 v0:=Tryz.zeroValue0
 t3:=Tryz.underlying3
 a3:=Tryz.isAgg3
 z3:=Tryz.sizeOf3
 v3:=Tryz.zeroValue3
 t4:=Tryz.underlying4
 a4:=Tryz.isAgg4
 z4:=Tryz.sizeOf4
 v4:=Tryz.zeroValue4
 t5:=Tryz.underlying5
 a5:=Tryz.isAgg5
 z5:=Tryz.sizeOf5
 v5:=Tryz.zeroValue5
 t9:=Tryz.underlying9
 a9:=Tryz.isAgg9
 z9:=Tryz.sizeOf9
 v9:=Tryz.zeroValue9
 t28:=Tryz.underlying25
 a28:=Tryz.isAgg25
 z28:=Tryz.sizeOf25
 v28:=Tryz.zeroValue25
 t46:=Tryz.underlying123
 a46:=Tryz.isAgg123
 z46:=Tryz.sizeOf123
 v46:=Tryz.zeroValue123
 t51:=Tryz.underlying145
 a51:=Tryz.isAgg145
 z51:=Tryz.sizeOf145
 v51:=Tryz.zeroValue145
 t53:=Tryz.underlying147
 a53:=Tryz.isAgg147
 z53:=Tryz.sizeOf147
 v53:=Tryz.zeroValue147
 t131:=Tryz.underlying56
 a131:=Tryz.isAgg56
 z131:=Tryz.sizeOf56
 v131:=Tryz.zeroValue56
 t182:=Tryz.underlying209
 a182:=Tryz.isAgg209
 z182:=Tryz.sizeOf209
 v182:=Tryz.zeroValue209
 t183:=Tryz.underlying210
 a183:=Tryz.isAgg210
 z183:=Tryz.sizeOf210
 v183:=Tryz.zeroValue210
 t218:=Tryz.underlying222
 a218:=Tryz.isAgg222
 z218:=Tryz.sizeOf222
 v218:=Tryz.zeroValue222
 t222:=Tryz.underlying226
 a222:=Tryz.isAgg226
 z222:=Tryz.sizeOf226
 v222:=Tryz.zeroValue226
 t228:=Tryz.underlying228
 a228:=Tryz.isAgg228
 z228:=Tryz.sizeOf228
 v228:=Tryz.zeroValue228
 t229:=Tryz.underlying229
 a229:=Tryz.isAgg229
 z229:=Tryz.sizeOf229
 v229:=Tryz.zeroValue229 }
def Tryz.laysNm220_ren:Go.Shelf.Ren:=⟨fun | 20=>91 | n=>n,fun | 22=>25 | 3=>3 | 4=>4 | 0=>0 | n=>n,fun | n=>n⟩
theorem Tryz.laysNm220:Go.Proofs.Lays2.n20 Tryz.prog Tryz.laysNm220_ren:={
 mixed:=by kernel_rfl
 f20:=Tryz.func91.trans (congrArg some (by kernel_rfl))
 t0:=Tryz.underlying0
 a0:=Tryz.isAgg0
 z0:=Tryz.sizeOf0
 v0:=Tryz.zeroValue0
 t3:=Tryz.underlying3
 a3:=Tryz.isAgg3
 z3:=Tryz.sizeOf3
 v3:=Tryz.zeroValue3
 t4:=Tryz.underlying4
 a4:=Tryz.isAgg4
 z4:=Tryz.sizeOf4
 v4:=Tryz.zeroValue4
 t22:=Tryz.underlying25
 a22:=Tryz.isAgg25
 z22:=Tryz.sizeOf25
 v22:=Tryz.zeroValue25
 i3:=by kernel_rfl }
open Go.Sort Go.RowKit in
theorem Tryz.sort_any (blk off cap:Nat) (zs:List Int) (w:World) (hH:Holds (Value.int .i64) w blk off zs.toArray) (hblk:blk<w.heap.size) (hsz:zs.length<4611686018427387904) :
  Calls Tryz.prog 90 #[.slice (some ⟨blk,off,none⟩) zs.length cap] w fun e w' =>
   e=.returned (.tuple #[])/\∃ n os,w'=grow (putRow (Value.int .i64) (Sort.ahead w n) blk off (zs.mergeSort fun x y=>decide (x<=y)).toArray) os:=Any.slices_Sort_int Tryz.lays189 blk off cap zs w hH hblk hsz
open Go.RowKit Go.Lib Go.Sort in
theorem Tryz.compact_any (blk off cap:Nat) (zs:List Int) (w:World) (hH:Holds (Value.int .i64) w blk off zs.toArray) (hsz:zs.length<=9223372036854775807) (hcap:zs.length<=cap) :
  Calls Tryz.prog 91 #[.slice (some ⟨blk,off,none⟩) zs.length cap] w fun e w'=>e=.returned (.slice (some ⟨blk,off,none⟩) (Lib.compact zs).length cap)/\∃ q,w'=putRow (Value.int .i64) (Sort.ahead w q) blk off (Lib.compact zs++List.replicate (zs.length-(Lib.compact zs).length) 0).toArray :=
 Any.slices_Compact_int Tryz.laysNm220 blk off cap zs w hH hsz hcap
end Go.Proofs
