
import Derived.Test.YtkdndfbfmchcpaaGreatDoorTgAB
set_option maxRecDepth 1000000
set_option maxHeartbeats 8000000
namespace Go.Proofs.YtkdndfbfmchcpaaGreatDoor.Sum
variable {a b c d:Int}{k n p v:Nat}
open Pol Dom
def prz (f:Nat->Int):Nat->Int
 | 0=>1
 | n+1=>prz f n*f n
theorem prz_same{f g:Nat->Int} (h:∀ i,i<n->f i=g i):prz f n=prz g n:=by
 induction n with
 | zero=>rfl
 | succ n ih=>simp only[prz];rw[ih (fun i hi=>h i (by omega)),h n (by omega)]
theorem dvd_mul_sub (h:(p:Int)∣a-b) (k:(p:Int)∣c-d):(p:Int)∣a*c-b*d:=by
 have h1:=Int.dvd_mul_of_dvd_left (c:=c) h;have h2:=Int.dvd_mul_of_dvd_right (b:=b) k;have:=Int.dvd_add h1 h2
 rwa [show (a-b)*c+b*(c-d)=a*c-b*d from by grind] at this
theorem dvd_add_sub (h:(p:Int)∣a-b) (k:(p:Int)∣c-d):(p:Int)∣(a+c)-(b+d):=by
 have:=Int.dvd_add h k
 rwa [show (a-b)+(c-d)=(a+c)-(b+d) from by omega] at this
theorem aAG{f g:Nat->Int} (h:∀ i,i<n->(p:Int)∣f i-g i):(p:Int)∣prz f n-prz g n:=by
 induction n with
 | zero=>simp[prz]
 | succ n ih=>simp only[prz];exact dvd_mul_sub (ih (fun i hi=>h i (by omega))) (h n (by omega))
theorem aCo{f:Nat->Int} (hk:k<n) (h:f k=0):prz f n=0:=by
 induction n with
 | zero=>omega
 | succ n ih =>
  simp only[prz];by_cases e:k=n
  ·subst e;rw[h];simp
  ·rw[ih (by omega)];simp
theorem aAH (hp:Num.Prime p) {f:Nat->Int} {n:Nat} (h:∀ i,i<n->¬ (p:Int)∣f i) (h1:¬ (p:Int)∣1):¬ (p:Int)∣prz f n:=by
 induction n with
 | zero=>exact h1
 | succ n ih =>
  simp only[prz];intro hd;rcases Ib hp hd with g | g
  ·exact ih (fun i hi=>h i (by omega)) g
  ·exact h n (by omega) g
def pvk (xs:Nat->Int) (k:Nat) (y:Int) (n:Nat):Int:=prz (fun i=>if i=k then 1 else y-xs i) n
theorem aFO (x:Int):∀ j,2<=j->lin x j=0:=fun j hj=>by
 unfold lin;simp only[Pol.sub,Pol.sh,Pol.sc,Pol.one];rw[if_neg (by omega),if_neg (by omega),if_neg (by omega)];simp
theorem aFr (x y:Int):ps (lin x) y 2=y-x:=by
 unfold lin;simp[ps,Pol.sub,Pol.sh,Pol.sc,Pol.one,Int.pow_succ];omega
theorem Ju (xs:Nat->Int) (k n j:Nat) (h:n<j):vsk xs k n j=0:=by
 induction n generalizing j with
 | zero=>rw[vsk];unfold Pol.one;rw[if_neg (by omega)]
 | succ n ih =>
  rw[vsk];split
  ·exact ih j (by omega)
  ·rw[mul_lin];unfold Pol.sub Pol.sh Pol.sc;rw[if_neg (by omega),ih (j-1) (by omega),ih j (by omega)];simp
theorem aCp (xs:Nat->Int) (k:Nat) (y:Int) (n:Nat):ps (vsk xs k n) y (n+1)=pvk xs k y n:=by
 induction n with
 | zero=>simp[vsk,pvk,prz,ps,Pol.one]
 | succ n ih =>
  rw[vsk];unfold pvk prz;split
  ·rename_i e
   rw[ps_stay _ _ (n+1) (n+1+1) (by omega) (fun j hj=>Ju _ _ _ _ (by omega)),ih];simp[pvk]
  ·have h:=aB9 (vsk xs k n) (lin (xs n)) y (n+1) 2 (fun j hj=>Ju _ _ _ _ (by omega)) (aFO _)
   have h2:ps (mul (vsk xs k n) (lin (xs n))) y (n+1+2)=ps (mul (vsk xs k n) (lin (xs n))) y (n+1+1):=ps_stay _ _ (n+1+1) (n+1+2) (by omega) (fun j hj=>by
    rw[mul_lin];unfold Pol.sub Pol.sh Pol.sc;rw[if_neg (by omega),Ju _ _ _ _ (show n<j-1 by omega),Ju _ _ _ _ (show n<j by omega)]
    simp)
   rw[<- h2,h,ih,aFr];rfl
theorem aEg (xs:Nat->Int) (k:Nat) (y:Int) (n:Nat) (hk:k<n):ps (vsk xs k n) y n=pvk xs k y n:=by
 rw[<- aCp,ps_stay _ _ n (n+1) (by omega) (fun j hj=>vsk_zero _ _ _ _ hk hj)]
theorem aAI{xs:Nat->Int}{j:Nat} (hj:j<n) (h:j≠k):pvk xs k (xs j) n=0:=by
 unfold pvk;refine aCo hj ?_;simp[h]
theorem aFP (xs ys:List Int) (j i:Nat) (hj:j<xs.length) (hi:i<=xs.length):ps (FS p xs ys i) (zat xs j) xs.length=if j<i then fc p xs ys j*pvk (zat xs) j (zat xs j) xs.length else 0:=by
 induction i with
 | zero=>rw[FS,ps_zero];simp
 | succ i ih =>
  rw[FS,ps_add,ps_sc,ih (by omega),aEg _ _ _ _ (by omega)];by_cases e:j=i
  ·subst e;rw[if_neg (by omega),if_pos (by omega)];omega
  ·rw[aAI hj e];by_cases h:j<i
   ·rw[if_pos h,if_pos (by omega)];simp
   ·rw[if_neg h,if_neg (by omega)];simp
theorem pfit_at (hp:Num.Prime p) (h3:3<=p) (xs ys:List Int) (hu:∀ i j,i<j->j<xs.length->¬ (p:Int)∣zat xs j-zat xs i) (j:Nat) (hj:j<xs.length):(p:Int)∣ps (FS p xs ys xs.length) (zat xs j) xs.length-zat ys j:=by
 rw[aFP xs ys j xs.length hj (Nat.le_refl _),if_pos hj];obtain⟨P,hP⟩:=exE (pvk (zat xs) j (zat xs j) xs.length);rw[<- hP]
 have hev:(p:Int)∣evz p (Et p xs j xs.length) (zat xs j)-P:=by unfold Et;rw[Qa h3,aCp,<- hP];exact emod_dvd p P
 have hnd:¬ (p:Int)∣P:=by
  rw[hP];refine aAH hp (fun i hi=>?_) ?_
  ·split
   ·intro h;have:=Int.le_of_dvd (by omega) h;omega
   ·rename_i hne
    rcases Nat.lt_or_gt_of_ne hne with g | g
    ·exact hu i j g hj
    ·intro h;apply hu j i g hi;have:=Int.dvd_neg.2 h
     rwa [show -(zat xs j-zat xs i)=zat xs i-zat xs j from by omega] at this
  ·intro h;have:=Int.le_of_dvd (by omega) h;omega
 have hne:¬ (p:Int)∣evz p (Et p xs j xs.length) (zat xs j):=fun h=>hnd (by
  have:=Int.dvd_sub h hev
  rwa [show evz p (Et p xs j xs.length) (zat xs j)-(evz p (Et p xs j xs.length) (zat xs j)-P)=P from by omega] at this)
 have hinv:=aBV hp h3 hne;obtain⟨V,hV⟩:=exE (evz p (Et p xs j xs.length) (zat xs j));rw[<- hV] at hev hinv
 have hfc:(p:Int)∣fc p xs ys j-zat ys j*(yX p V:Int):=by unfold fc;rw[<- hV];exact emod_dvd p _
 generalize (yX p V:Int)=I at *;generalize fc p xs ys j=C at *;generalize zat ys j=Y at *;obtain⟨a,ha⟩:=hev;obtain⟨b,hb⟩:=hinv;obtain⟨c,hc⟩:=hfc;refine⟨c*P+Y*b-Y*I*a,?_⟩;have e1:C=(p:Int)*c+Y*I:=by omega
 have e2:V=(p:Int)*a+P:=by omega
 rw[e2] at hb
 have e3:I*P=(p:Int)*b+1-I*((p:Int)*a):=by have:I*((p:Int)*a+P)=I*((p:Int)*a)+I*P:=Int.mul_add _ _ _;omega
 rw[e1];have k1:((p:Int)*c+Y*I)*P-Y=(p:Int)*c*P+Y*(I*P)-Y:=by grind
 rw[k1,e3]
 grind
theorem agree (hp:Num.Prime p) (n:Nat) (f g:S) (xs:Nat->Int) (hu:∀ i j,i<j->j<n->¬ (p:Int)∣xs j-xs i) (h:∀ i,i<n->(p:Int)∣ps f (xs i) n-ps g (xs i) n) (x:Int):(p:Int)∣ps f x n-ps g x n:=by
 have hz:=roots hp n (Pol.sub f g) xs hu (fun i hi=>by
  have:=h i hi;rw[Fx,Fx] at this;rw[Fx]
  have e:sm (fun j=>Pol.sub f g j*xs i ^ j) n=sm (fun j=>f j*xs i ^ j) n-sm (fun j=>g j*xs i ^ j) n:=by have h1:=sm_add (fun j=>Pol.sub f g j*xs i ^ j) (fun j=>g j*xs i ^ j) n;rw[show (fun j=>Pol.sub f g j*xs i ^ j+g j*xs i ^ j)=(fun j=>f j*xs i ^ j) from funext fun j=>by unfold Pol.sub;grind] at h1;omega
  rw[e]
  exact this)
 exact ps_congr x n (fun j hj=>hz j hj)
def str (a b:Int):S:=fun j=>if j=0 then a else if j=1 then b-a else 0
theorem aES (a b:Int):∀ j,2<=j->str a b j=0:=fun j hj=>by unfold str;rw[if_neg (by omega),if_neg (by omega)]
theorem aFs (a b x:Int):ps (str a b) x 2=a*(1-x)+b*x:=by
 simp[ps,str]
 grind
def strs (a b:Nat->Int):Nat->S
 | 0=>Pol.one
 | d+1=>Pol.mul (strs a b d) (str (a d) (b d))
theorem aCq (a b:Nat->Int) (d:Nat):∀ j,d+1<=j->strs a b d j=0:=by
 induction d with
 | zero=>intro j hj;unfold strs Pol.one;rw[if_neg (by omega)]
 | succ d ih=>intro j hj;exact Kw _ _ (d+1) 2 ih (aES _ _) j (by omega)
theorem ps_strs (a b:Nat->Int) (x:Int) (d:Nat):ps (strs a b d) x (d+1)=prz (fun k=>a k*(1-x)+b k*x) d:=by
 induction d with
 | zero=>simp[strs,prz,ps,Pol.one]
 | succ d ih =>
  rw[strs,prz,<- ih,<- aFs,<- aB9 _ _ _ (d+1) 2 (aCq a b d) (aES _ _),<- ps_stay (Pol.mul (strs a b d) (str (a d) (b d))) x (d+1+1) (d+1+2) (by omega) (aCq a b (d+1))]
theorem sm_split (f:Nat->Int) (m n:Nat):sm f (m+n)=sm f m+sm (fun i=>f (m+i)) n:=by
 induction n with
 | zero=>simp[sm]
 | succ n ih=>rw[<- Nat.add_assoc,sm,ih,sm];omega
def wgt (at':Nat->Int) (v i:Nat):Int:=prz (fun k=>if (i / 2 ^ k) % 2=0 then 1-at' (v-1-k) else at' (v-1-k)) v
def ext (t at':Nat->Int) (v:Nat):Int:=sm (fun i=>t i*wgt at' v i) (2 ^ v)
theorem aFt{i:Nat} (hk:k<v):(i+2 ^ v) / 2 ^ k % 2=i / 2 ^ k % 2:=by
 obtain⟨d,rfl⟩:∃ d,v=k+1+d:=⟨v-k-1,by omega⟩
 have e:2 ^ (k+1+d)=2 ^ k*(2*2 ^ d):=by rw[Nat.pow_add,Nat.pow_succ,Nat.mul_assoc]
 rw[e,Nat.add_mul_div_left _ _ (Nat.two_pow_pos k)];omega
theorem Zi (at':Nat->Int) (v i:Nat):prz (fun k=>if (i / 2 ^ k) % 2=0 then 1-at' (v+1-1-k) else at' (v+1-1-k)) v=wgt (fun j=>at' (j+1)) v i:=by
 unfold wgt;refine prz_same (fun k hk=>?_);rw[show v+1-1-k=v-1-k+1 from by omega]
theorem aFu (at':Nat->Int) {v i:Nat} (h:i<2 ^ v):wgt at' (v+1) i=wgt (fun j=>at' (j+1)) v i*(1-at' 0):=by
 unfold wgt;rw[prz,Zi];rw[show v+1-1-v=0 from by omega,Nat.div_eq_of_lt h];rfl
theorem aFv (at':Nat->Int) {v i:Nat} (h:i<2 ^ v):wgt at' (v+1) (2 ^ v+i)=wgt (fun j=>at' (j+1)) v i*at' 0:=by
 unfold wgt;rw[prz,Zi]
 have e:(2 ^ v+i) / 2 ^ v % 2=1:=by rw[Nat.add_div_left _ (Nat.two_pow_pos v),Nat.div_eq_of_lt h]
 rw[show v+1-1-v=0 from by omega,e]
 congr 1
 unfold wgt;refine prz_same (fun k hk=>?_);rw[Nat.add_comm,aFt hk]
theorem ext_succ (t at':Nat->Int) (v:Nat):ext t at' (v+1)=ext (fun i=>t i*(1-at' 0)+t (i+2 ^ v)*at' 0) (fun j=>at' (j+1)) v:=by
 unfold ext;rw[show 2 ^ (v+1)=2 ^ v+2 ^ v from by rw[Nat.pow_succ];omega,sm_split];have h1:sm (fun i=>t i*wgt at' (v+1) i) (2 ^ v)=sm (fun i=>t i*(1-at' 0)*wgt (fun j=>at' (j+1)) v i) (2 ^ v):=sm_same (fun i hi=>by rw[aFu at' hi];grind);have h2:sm (fun i=>t (2 ^ v+i)*wgt at' (v+1) (2 ^ v+i)) (2 ^ v)=sm (fun i=>t (i+2 ^ v)*at' 0*wgt (fun j=>at' (j+1)) v i) (2 ^ v):=sm_same (fun i hi=>by rw[aFv at' hi,Nat.add_comm];grind);rw[h1,h2,<- sm_add];exact sm_same (fun i _=>by grind)
theorem ext_zero (t at':Nat->Int):ext t at' 0=t 0:=by simp[ext,sm,wgt,prz]
theorem ext_congr{t u at' bt:Nat->Int} (h:∀ i,i<2 ^ v->(p:Int)∣t i-u i) (k:∀ j,j<v->(p:Int)∣at' j-bt j):(p:Int)∣ext t at' v-ext u bt v:=by
 unfold ext;refine sm_congr (fun i hi=>dvd_mul_sub (h i hi) (aAG (fun b hb=>?_)));have:=k (v-1-b) (by omega);split
 ·rwa [show 1-at' (v-1-b)-(1-bt (v-1-b))=-(at' (v-1-b)-bt (v-1-b)) from by omega,Int.dvd_neg]
 ·exact this
theorem Qc (t u at':Nat->Int) (a b:Int) (v:Nat):ext (fun i=>t i*a+u i*b) at' v=ext t at' v*a+ext u at' v*b:=by
 unfold ext;have h:=sm_add (fun i=>a*(t i*wgt at' v i)) (fun i=>b*(u i*wgt at' v i)) (2 ^ v);rw[sm_mul,sm_mul] at h;rw[Int.mul_comm _ a,Int.mul_comm _ b,<- h];exact sm_same (fun i _=>by grind)
def upz (f:Nat->Int) (i:Nat) (x:Int):Nat->Int:=fun j=>if j=i then x else f j
theorem Lj (f:Nat->Int) (i:Nat) (x:Int):(fun j=>upz f (i+1) x (j+1))=upz (fun j=>f (j+1)) i x:=by funext j;simp[upz]
theorem ext_same{t u at' bt:Nat->Int} (h:∀ i,i<2 ^ v->t i=u i) (k:∀ j,j<v->at' j=bt j):ext t at' v=ext u bt v:=by
 unfold ext;refine sm_same (fun i hi=>?_);rw[h i hi]
 congr 1
 exact prz_same (fun b hb=>by rw[k (v-1-b) (by omega)])
theorem ext_straight (t at':Nat->Int) (v j:Nat) (hj:j<v) (r:Int):ext t (upz at' j r) v=ext t (upz at' j 0) v+(ext t (upz at' j 1) v-ext t (upz at' j 0) v)*r:=by
 induction v generalizing t at' j with
 | zero=>omega
 | succ v ih =>
  rw[ext_succ,ext_succ,ext_succ];cases j with
  | zero =>
   have e:∀ x,(fun i=>upz at' 0 x (i+1))=fun i=>at' (i+1):=fun x=>by funext i;simp[upz]
   rw[e,e,e];simp only[show ∀ x,upz at' 0 x 0=x from fun x=>by simp[upz]];rw[Qc t (fun i=>t (i+2 ^ v)),Qc t (fun i=>t (i+2 ^ v)),Qc t (fun i=>t (i+2 ^ v))]
   grind
  | succ j =>
   rw[Lj,Lj,Lj];simp only[show ∀ x,upz at' (j+1) x 0=at' 0 from fun x=>by simp[upz]];exact ih _ _ j (by omega)
end Go.Proofs.YtkdndfbfmchcpaaGreatDoor.Sum
namespace Go.Proofs.YtkdndfbfmchcpaaGreatDoor
open Go.RowKit
def vrs (n:Nat):Int:=match (List.range 13).find? (fun v=>n==2 ^ v) with
 | some v=>v
 | none=>-1
theorem Zj {n v:Nat} (hv:v<=12) (h:n=2 ^ v):vrs n=v:=by
 unfold vrs
 have e:(List.range 13).find? (fun u=>n==2 ^ u)=some v:=by rw[List.find?_range_eq_some];refine⟨by simpa using h,by simp;omega,fun j hj=>?_⟩;have:=Nat.pow_lt_pow_right (a:=2) (by omega) hj;simp;omega
 rw[e]
theorem aFw {n:Nat} (h:∀ v,v<=12->n≠2 ^ v):vrs n=-1:=by
 unfold vrs
 have e:(List.range 13).find? (fun u=>n==2 ^ u)=none:=by rw[List.find?_eq_none];intro u hu;simp at hu;simpa using h u (by omega)
 rw[e]
theorem aFx {n:Nat} (h:0<=vrs n):∃ v:Nat,v<=12/\n=2 ^ v/\vrs n=v:=by
 by_cases e:∃ v:Nat,v<=12/\n=2 ^ v
 ·obtain⟨v,h1,h2⟩:=e;exact⟨v,h1,h2,Zj h1 h2⟩
 ·have:=aFw (n:=n) (fun v hv h2=>e ⟨v,hv,h2⟩);omega
theorem Gg (p:Nat) (a:Int):(p:Int)∣a % (p:Int)-a:=Pol.emod_dvd p a
def Ie (p:Nat) (t:List Int) (r:Int):List Int:=ls (fun i=>(zat t i*(1-r)+zat t (i+t.length / 2)*r) % (p:Int)) (t.length / 2)
theorem Lk (p:Nat) (t:List Int) (r:Int):(Ie p t r).length=t.length / 2:=kQ _ _
theorem Qd {p:Nat} {t:List Int} {r:Int} {i:Nat} (h:i<t.length / 2):zat (Ie p t r) i=(zat t i*(1-r)+zat t (i+t.length / 2)*r) % (p:Int):=kZ _ _ _ h
def Bk (n:Nat):List Int:=ls (fun i=>(i:Int)) n
theorem Bl (n:Nat):(Bk n).length=n:=kQ _ _
def atz (p:Nat) (l:List Int) (r:Int):Int:=evz p (Dt p (Bk l.length) l) r
theorem Fe (p:Nat) (l:List Int) (r:Int) (h3:3<=p):0<=atz p l r/\atz p l r<p:=qQ _ p h3
theorem aCr {p:Nat} (h3:3<=p) (xs ys:List Int):Pol.Can p (Dt p xs ys):=Pol.mk_can (by omega) _ _
theorem aEh (p:Nat) (xs ys:List Int):(Dt p xs ys).length<=xs.length:=by rw[Dt,Pol.mk_length];exact Pol.tp_le _ _ _
def aCs (p:Int):Prop:=Jq p/\23<=p
theorem Qe:Num.Prime 97:=by
 refine⟨by decide,fun d hd=>?_⟩;have hle:d<=97:=Nat.le_of_dvd (by decide) hd;have key:∀ e,e<=97->97 % e=0->e=1∨e=97:=by decide
 exact key d hle (Nat.mod_eq_zero_of_dvd hd)
theorem ArrI.rowB {w:World} {b n n0:Nat} {t:TypeId} {f:Nat->Int} (h:ArrI w b t n f) {zs:List Int} (hn:zs.length<=n) (hz:∀ j,j<zs.length->zat zs j=f j) (hg:b<n0):RowB n0 w (some ⟨b,0,none⟩) zs :=
 fun k hk=>⟨b,0,rfl,hg,by rw[Nat.zero_add,hz k hk];exact h.cell (by omega)⟩
end Go.Proofs.YtkdndfbfmchcpaaGreatDoor
