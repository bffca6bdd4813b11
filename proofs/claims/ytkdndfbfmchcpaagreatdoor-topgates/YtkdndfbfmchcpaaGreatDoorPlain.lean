set_option maxRecDepth 1000000
set_option maxHeartbeats 8000000
namespace Go.Proofs.YtkdndfbfmchcpaaGreatDoor.Num
variable {a d j k m n p s x y:Nat}
def Prime (p:Nat):Prop:=2<=p/\∀ d,d∣p->d=1∨d=p
def Least (n d:Nat):Prop:=2<=d/\d∣n/\∀ e,2<=e->e<d->¬ e∣n
theorem least_prime (h:Least n d):Prime d:=by
 refine⟨h.1,fun e he=>?_⟩;have hpos:0<d:=by have:=h.1;omega
 have hle:e<=d:=Nat.le_of_dvd hpos he;by_cases h1:e=d
 ·exact Or.inr h1
 ·by_cases h0:e=0
  ·subst h0;have:=Nat.eq_zero_of_zero_dvd he;omega
  ·by_cases h2:e=1
   ·exact Or.inl h2
   ·exact absurd (Nat.dvd_trans he h.2.1) (h.2.2 e (by omega) (by omega))
theorem least_unique{e:Nat} (h:Least n d) (g:Least n e):d=e:=by
 rcases Nat.lt_trichotomy d e with l | l | l
 ·exact absurd h.2.1 (g.2.2 d h.1 l)
 ·exact l
 ·exact absurd g.2.1 (h.2.2 e g.1 l)
theorem prime_least (h:Prime p):Least p p:=by
 refine⟨h.1,Nat.dvd_refl _,fun e h2 hlt hd=>?_⟩;rcases h.2 e hd with g | g <;> omega
theorem least_self (h2:2<=n) (hk:n<k*k) (h:∀ e,2<=e->e<k->¬ e∣n):Least n n:=by
 refine⟨h2,Nat.dvd_refl _,fun e he hlt hd=>?_⟩;obtain⟨c,hc⟩:=hd;by_cases hek:e<k
 ·exact h e he hek ⟨c,hc⟩
 ·have hc2:2<=c:=by
   rcases Nat.lt_or_ge c 2 with g | g
   ·have:c=0∨c=1:=by omega
    rcases this with g | g <;> subst g <;> omega
   ·exact g
  have hck:c<k:=by
   rcases Nat.lt_or_ge c k with g | g
   ·exact g
   ·have:k*k<=e*c:=Nat.mul_le_mul (by omega) g;omega
  exact h c hc2 hck ⟨e,by rw[hc,Nat.mul_comm]⟩
theorem euclid (hp:Prime p) (h:p∣x*y):p∣x∨p∣y:=by
 have hg:Nat.gcd p x∣p:=Nat.gcd_dvd_left p x;rcases hp.2 _ hg with g | g
 ·exact Or.inr (Nat.Coprime.dvd_of_dvd_mul_left g h)
 ·left;rw[<- g];exact Nat.gcd_dvd_right p x
theorem not_dvd_lt (h0:0<x) (h:x<p):¬ p∣x:=by
 intro g;have:=Nat.le_of_dvd h0 g;omega
theorem cancel (hp:Prime p) (ha:¬ p∣a) (h:a*x % p=a*y % p):x % p=y % p:=by
 have key:∀ x y:Nat,x<=y->a*x % p=a*y % p->x % p=y % p:=by
  intro x y hxy h;have h1:p∣a*y-a*x:=Nat.dvd_of_mod_eq_zero (Nat.sub_mod_eq_zero_of_mod_eq h.symm);rw[<- Nat.mul_sub] at h1;rcases euclid hp h1 with g | g
  ·exact absurd g ha
  ·obtain⟨c,hc⟩:=g;have:y=x+p*c:=by omega
   rw[this,Nat.add_mul_mod_self_left]
 rcases Nat.le_total x y with g | g
 ·exact key x y g h
 ·exact (key y x g h.symm).symm
theorem Ps (p a:Nat) (l:List Nat):(l.map (fun i=>a*i % p)).prod % p=(a ^ l.length*l.prod) % p:=by
 induction l with
 | nil=>simp
 | cons x l ih =>
  simp only[List.map_cons,List.prod_cons,List.length_cons];rw[Nat.mul_mod,Nat.mod_mod,ih,<- Nat.mul_mod]
  congr 1
  rw[Nat.pow_succ];grind
theorem Pt (hp:Prime p) (l:List Nat) (h:∀ x,x∈l->¬ p∣x):¬ p∣l.prod:=by
 induction l with
 | nil=>simp only[List.prod_nil];intro g;have:=Nat.le_of_dvd (by omega) g;have:=hp.1;omega
 | cons x l ih =>
  rw[List.prod_cons];intro g;rcases euclid hp g with g | g
  ·exact h x (by simp) g
  ·exact ih (fun y hy=>h y (by simp[hy])) g
theorem aFf (hp:Prime p) (ha:¬ p∣a):a ^ (p-1) % p=1:=by
 have h2:=hp.1
 have hS:∀ x,x∈List.range' 1 (p-1)↔1<=x/\x<p:=by intro x;rw[List.mem_range'_1];omega
 have nS:(List.range' 1 (p-1)).Nodup:=List.nodup_range';have lS:(List.range' 1 (p-1)).length=p-1:=List.length_range';generalize List.range' 1 (p-1)=S at *;have hnd:∀ x,x∈S->¬ p∣x:=fun x hx=>not_dvd_lt (by have:=(hS x).1 hx;omega) ((hS x).1 hx).2
 have nT:(S.map (fun i=>a*i % p)).Nodup:=by rw[List.nodup_iff_pairwise_ne] at nS ⊢;rw[List.pairwise_map];refine nS.imp_of_mem ?_;intro x y hx hy hxy h;have:=cancel hp ha h;rw[Nat.mod_eq_of_lt ((hS x).1 hx).2,Nat.mod_eq_of_lt ((hS y).1 hy).2] at this;exact hxy this
 have sub:S.map (fun i=>a*i % p) ⊆ S:=by
  intro y hy;obtain⟨x,hx,rfl⟩:=List.mem_map.1 hy;rw[hS];refine⟨?_,Nat.mod_lt _ (by omega)⟩;rcases Nat.eq_zero_or_pos (a*x % p) with g | g
  ·rcases euclid hp (Nat.dvd_of_mod_eq_zero g) with g | g
   ·exact absurd g ha
   ·exact absurd g (hnd x hx)
  ·exact g
 have sup:S ⊆ S.map (fun i=>a*i % p):=by
  intro y hy;by_cases hm:y∈S.map (fun i=>a*i % p)
  ·exact hm
  ·have nn:(y :: S.map (fun i=>a*i % p)).Nodup:=List.nodup_cons.2 ⟨hm,nT⟩
   have:=nn.length_le_of_subset (l₂:=S) (by
    intro z hz;rcases List.mem_cons.1 hz with g | g
    ·rw[g];exact hy
    ·exact sub g)
   simp at this;omega
 have hperm:(S.map (fun i=>a*i % p)).Perm S:=(List.perm_ext_iff_of_nodup nT nS).2 (fun z=>⟨fun h=>sub h,fun h=>sup h⟩);have hprod:=hperm.prod_nat;have hm:=Ps p a S;rw[hprod,lS] at hm;have hF:=Pt hp S hnd;have:S.prod*1 % p=S.prod*a ^ (p-1) % p:=by rw[Nat.mul_one,hm,Nat.mul_comm]
 have:=cancel hp hF this;rw[<- this,Nat.mod_eq_of_lt (by omega)]
theorem Jk{q:Nat} (hp:Prime p) (hq:Prime q) (h:q∣p):q=p:=by
 rcases hp.2 q h with g | g
 ·have:=hq.1;omega
 ·exact g
theorem aB4 (hm:1<=m) (hk:k∣m) (hd:d∣m) (hn:¬ d∣k):2*k<=m:=by
 obtain⟨c,hc⟩:=hk;have h0:c≠0:=by rintro rfl;omega
 have h1:c≠1:=by rintro rfl;rw[Nat.mul_one] at hc;rw[hc] at hd;exact hn hd
 have:k*2<=k*c:=Nat.mul_le_mul_left k (by omega);omega
structure PD (n m:Nat) (ds:List Nat):Prop where
 pos:1<=m
 left:m∣n
 sound:∀ q,q∈ds->Prime q/\q∣n
 whole:∀ q,Prime q->q∣n->q∈ds∨q∣m
 short:2 ^ ds.length*m<=n
theorem PD.start (h:1<=n):PD n n [] :=
 ⟨h,Nat.dvd_refl _,fun q hq=>by simp at hq,fun q _ hd=>Or.inr hd,by simp⟩
theorem PD.len{ds:List Nat} (h:PD n m ds) (hn:n<=2147483647):ds.length<=31:=by
 rcases Nat.lt_or_ge 31 ds.length with g | g
 ·have h1:2 ^ 32<=2 ^ ds.length:=Nat.pow_le_pow_right (by omega) g;have h2:2 ^ ds.length*1<=2 ^ ds.length*m:=Nat.mul_le_mul_left _ h.pos;have:=h.short;omega
 ·exact g
structure PO (d m k:Nat):Prop where
 pos:1<=k
 left:k∣m
 whole:∀ q,Prime q->q∣m->q=d∨q∣k
theorem PO.start (h:1<=m):PO d m m:=⟨h,Nat.dvd_refl _,fun _ _ hd=>Or.inr hd⟩
theorem PO.step (hd:Prime d) (h:PO d m k) (hk:d∣k):PO d m (k / d):=by
 obtain⟨c,rfl⟩:=hk;have h2:=hd.1;rw[Nat.mul_div_cancel_left c (by omega)];refine⟨?_,Nat.dvd_trans (Nat.dvd_mul_left c d) h.left,fun q hq hqm=>?_⟩
 ·rcases Nat.eq_zero_or_pos c with g | g
  ·subst g;have:=h.pos;simp at this
  ·exact g
 ·rcases h.whole q hq hqm with g | g
  ·exact Or.inl g
  ·rcases euclid hq g with g | g
   ·exact Or.inl (Jk hd hq g)
   ·exact Or.inr g
theorem PD.step{ds:List Nat} (h:PD n m ds) (hl:Least m d) (ho:PO d m k) (hn:¬ d∣k):PD n k (ds++[d])/\k<m:=by
 have hs:=aB4 h.pos ho.left hl.2.1 hn;have hp:=ho.pos;refine⟨⟨ho.pos,Nat.dvd_trans ho.left h.left,?_,?_,?_⟩,by omega⟩
 ·intro q hq;rcases List.mem_append.1 hq with g | g
  ·exact h.sound q g
  ·simp at g;subst g;exact⟨least_prime hl,Nat.dvd_trans hl.2.1 h.left⟩
 ·intro q hq hd;rcases h.whole q hq hd with g | g
  ·exact Or.inl (List.mem_append_left _ g)
  ·rcases ho.whole q hq g with g | g
   ·subst g;exact Or.inl (by simp)
   ·exact Or.inr g
 ·have h1:=h.short;rw[List.length_append,List.length_singleton,Nat.pow_succ,Nat.mul_assoc];have h2:2 ^ ds.length*(2*k)<=2 ^ ds.length*m:=Nat.mul_le_mul_left _ hs;omega
def Primes (n:Nat) (ds:List Nat):Prop:=(∀ q,q∈ds↔Prime q/\q∣n)/\ds.length<=31
theorem PD.done{ds:List Nat} (h:PD n m ds) (hm:m<=1) (hn:n<=2147483647):Primes n ds:=by
 refine⟨fun q=>⟨h.sound q,fun ⟨hq,hd⟩=>?_⟩,h.len hn⟩;rcases h.whole q hq hd with g | g
 ·exact g
 ·have:=Nat.le_of_dvd (by have:=h.pos;omega) g;have:=hq.1;omega
def pwm (p s e:Nat):Nat:=s ^ e % p
theorem pwm_lt (p s e:Nat) (h:0<p):pwm p s e<p:=Nat.mod_lt _ h
theorem pwm_zero (p s:Nat) (h:2<=p):pwm p s 0=1:=by unfold pwm;rw[Nat.pow_zero,Nat.mod_eq_of_lt (by omega)]
theorem pwm_one (p s:Nat) (h:s<p):pwm p s 1=s:=by unfold pwm;rw[Nat.pow_one,Nat.mod_eq_of_lt h]
theorem pwm_add (p s x y:Nat):pwm p s x*pwm p s y % p=pwm p s (x+y):=by
 unfold pwm;rw[<- Nat.mul_mod,<- Nat.pow_add]
theorem Fu (p s x y:Nat):pwm p (pwm p s x) y=pwm p s (x*y):=by
 unfold pwm;rw[<- Nat.pow_mod,<- Nat.pow_mul]
theorem Fv (p y:Nat) (h:2<=p):pwm p 1 y=1:=by unfold pwm;rw[Nat.one_pow,Nat.mod_eq_of_lt (by omega)]
theorem Ar (hp:2<=p) (h:pwm p s x=1) (y:Nat):pwm p s (x*y)=1:=by
 rw[<- Fu,h,Fv p y hp]
theorem pwm_fermat (hp:Prime p) (h0:0<s) (hs:s<p):pwm p s (p-1)=1:=aFf hp (not_dvd_lt h0 hs)
theorem pwm_mod (hp:Prime p) (h0:0<s) (hs:s<p) (n:Nat):pwm p s (n % (p-1))=pwm p s n:=by
 have h2:=hp.1;have e:n=(p-1)*(n / (p-1))+n % (p-1):=(Nat.div_add_mod n (p-1)).symm;have h:pwm p s n=pwm p s ((p-1)*(n / (p-1))+n % (p-1)):=congrArg _ e;rw[h,<- pwm_add,Ar h2 (pwm_fermat hp h0 hs),Nat.one_mul,Nat.mod_eq_of_lt (pwm_lt p s _ (by omega))]
def Ord (p s k:Nat):Prop:=1<=k/\k∣p-1/\pwm p s k=1/\∀ q,Prime q->q∣k->pwm p s (k / q)≠1
def IsGen (p x:Nat):Prop:=∀ q,Prime q->q∣p-1->pwm p x ((p-1) / q)≠1
def GenIs (p g:Nat):Prop:=(1<=g/\g<p/\IsGen p g/\∀ x,1<=x->x<g->¬ IsGen p x)∨(g=0/\∀ x,1<=x->x<p->¬ IsGen p x)
theorem Bb:∀ (k n:Nat),n<=k->2<=n->∃ q,Prime q/\q∣n
 | 0,n,h,h2=>by omega
 | k+1,n,h,h2=>by
  by_cases hp:∀ d,d∣n->d=1∨d=n
  ·exact⟨n,⟨h2,hp⟩,Nat.dvd_refl _⟩
  ·have:∃ d,d∣n/\d≠1/\d≠n:=by
    apply Classical.byContradiction;intro hno;apply hp;intro d hd;by_cases h1:d=1
    ·exact Or.inl h1
    ·by_cases hn:d=n
     ·exact Or.inr hn
     ·exact absurd ⟨d,hd,h1,hn⟩ hno
   obtain⟨d,hd,h1,hn⟩:=this;have hle:=Nat.le_of_dvd (by omega) hd;have h0:d≠0:=by rintro rfl;have:=Nat.eq_zero_of_zero_dvd hd;omega
   obtain⟨q,hq,hqd⟩:=Bb k d (by omega) (by omega);exact⟨q,hq,Nat.dvd_trans hqd hd⟩
theorem Vy (hp:2<=p) (hk:pwm p s k=1):pwm p s (j % k)=pwm p s j:=by
 have e:j=k*(j / k)+j % k:=(Nat.div_add_mod j k).symm;have h:pwm p s j=pwm p s (k*(j / k)+j % k):=congrArg _ e;rw[h,<- pwm_add,Ar hp hk,Nat.one_mul,Nat.mod_eq_of_lt (pwm_lt p s _ (by omega))]
theorem Yz {p s:Nat} (hp:2<=p):∀ (f k j:Nat),k<=f->pwm p s k=1->pwm p s j=1->pwm p s (Nat.gcd k j)=1
 | 0,k,j,h,_,hj=>by
  have:k=0:=by omega
  subst this;rw[Nat.gcd_zero_left];exact hj
 | f+1,k,j,h,hk,hj=>by
  by_cases h0:k=0
  ·subst h0;rw[Nat.gcd_zero_left];exact hj
  ·rw[Nat.gcd_rec];have hlt:=Nat.mod_lt j (show 0<k by omega);exact Yz hp f (j % k) k (by omega) (by rw[Vy hp hk];exact hj) hk
theorem Za (hp:2<=p) (h:Ord p s k) (hj:pwm p s j=1):k∣j:=by
 obtain⟨h1,h2,h3,h4⟩:=h;have hg:=Yz hp k k j (Nat.le_refl _) h3 hj;have hgk:=Nat.gcd_dvd_left k j;have hgj:=Nat.gcd_dvd_right k j;generalize Nat.gcd k j=g at *;by_cases he:g=k
 ·rw[<- he];exact hgj
 ·obtain⟨c,hc⟩:=hgk
  have hc2:2<=c:=by
   rcases Nat.lt_or_ge c 2 with l | l
   ·have:c=0∨c=1:=by omega
    rcases this with rfl | rfl <;> omega
   ·exact l
  obtain⟨q,hq,e,rfl⟩:=Bb c c (Nat.le_refl _) hc2;have hq2:=hq.1;exfalso;refine h4 q hq ⟨g*e,by rw[hc];exact Nat.mul_left_comm g q e⟩ ?_;rw[hc,Nat.mul_left_comm g q e,Nat.mul_div_cancel_left _ (by omega)];exact Ar hp hg e
theorem aDI{g:Nat} (hp:Prime p) (h1:1<=g) (h2:g<p) (hg:IsGen p g):Ord p g (p-1) :=
 ⟨by have:=hp.1;omega,Nat.dvd_refl _,pwm_fermat hp h1 h2,hg⟩
end Go.Proofs.YtkdndfbfmchcpaaGreatDoor.Num
namespace Go.Proofs.YtkdndfbfmchcpaaGreatDoor.Pol
abbrev S:=Nat->Int
def tl (f:S):S:=fun n=>f (n+1)
def ml:Nat->S->S->Int
 | 0,f,g=>f 0*g 0
 | n+1,f,g=>f 0*g (n+1)+ml n (tl f) g
def mul (f g:S):S:=fun n=>ml n f g
def add (f g:S):S:=fun n=>f n+g n
def sub (f g:S):S:=fun n=>f n-g n
def sc (c:Int) (f:S):S:=fun n=>c*f n
def sh (k:Nat) (f:S):S:=fun n=>if n<k then 0 else f (n-k)
def zero:S:=fun _=>0
def one:S:=fun n=>if n=0 then 1 else 0
theorem Ip (n:Nat) (f g h:S):ml n (add f g) h=ml n f h+ml n g h:=by
 induction n generalizing f g with
 | zero=>simp only[ml,add];grind
 | succ n ih =>
  simp only[ml];rw[show tl (add f g)=add (tl f) (tl g) from rfl,ih];simp only[add];grind
theorem Sg (n:Nat) (f g h:S):ml n (sub f g) h=ml n f h-ml n g h:=by
 induction n generalizing f g with
 | zero=>simp only[ml,sub];grind
 | succ n ih =>
  simp only[ml];rw[show tl (sub f g)=sub (tl f) (tl g) from rfl,ih];simp only[sub];grind
theorem Kv (n:Nat) (c:Int) (f g:S):ml n (sc c f) g=c*ml n f g:=by
 induction n generalizing f with
 | zero=>simp only[ml,sc];grind
 | succ n ih =>
  simp only[ml];rw[show tl (sc c f)=sc c (tl f) from rfl,ih];simp only[sc];grind
theorem aFg (f g:S):tl (mul f g)=add (sc (f 0) (tl g)) (mul (tl f) g):=by
 funext n;rfl
theorem aDJ (n:Nat) (f g:S):ml (n+1) f g=f (n+1)*g 0+ml n f (tl g):=by
 induction n generalizing f with
 | zero=>simp only[ml,tl];grind
 | succ n ih =>
  rw[ml,ih (tl f)];show _=_+(f 0*g (n+2)+ml n (tl f) (tl g))
  simp only[tl];grind
theorem aDK (n:Nat) (f g:S):ml n f g=ml n g f:=by
 induction n generalizing f g with
 | zero=>simp only[ml];grind
 | succ n ih=>rw[aDJ,ml,ih];grind
theorem aB5 (n:Nat) (f g h:S):ml n (mul f g) h=ml n f (mul g h):=by
 induction n generalizing f with
 | zero=>simp only[ml,mul];grind
 | succ n ih =>
  rw[ml,ml,aFg,Ip,Kv,ih (tl f)];show f 0*g 0*h (n+1)+_=f 0*(g 0*h (n+1)+ml n (tl g) h)+_
  grind
theorem mul_comm (f g:S):mul f g=mul g f:=funext fun n=>aDK n f g
theorem mul_assoc (f g h:S):mul (mul f g) h=mul f (mul g h):=funext fun n=>aB5 n f g h
theorem add_mul (f g h:S):mul (add f g) h=add (mul f h) (mul g h):=funext fun n=>Ip n f g h
theorem sub_mul (f g h:S):mul (sub f g) h=sub (mul f h) (mul g h):=funext fun n=>Sg n f g h
theorem aB6 (c:Int) (f g:S):mul (sc c f) g=sc c (mul f g):=funext fun n=>Kv n c f g
theorem Fw (n:Nat) (g:S):ml n zero g=0:=by
 induction n with
 | zero=>simp[ml,zero]
 | succ n ih=>rw[ml,show tl zero=zero from rfl,ih];simp[zero]
theorem zero_mul (g:S):mul zero g=zero:=funext fun n=>Fw n g
theorem one_mul (g:S):mul one g=g:=by
 funext n
 cases n with
 | zero=>simp[mul,ml,one]
 | succ n =>
  have:tl one=zero:=by funext k;simp[tl,one,zero]
  simp only[mul,ml,this,Fw];simp[one]
theorem Zb (f:S):sh 0 f=f:=by funext n;simp[sh]
theorem aFM (k:Nat) (f:S):tl (sh (k+1) f)=sh k f:=by
 funext n;simp only[tl,sh];grind
theorem aB7 (k:Nat) (f g:S):mul (sh k f) g=sh k (mul f g):=by
 induction k with
 | zero=>rw[Zb,Zb]
 | succ k ih =>
  funext n
  cases n with
  | zero=>simp[mul,ml,sh]
  | succ n =>
   have h1:=congrFun ih n;simp only[mul] at h1;simp only[mul,ml,aFM,h1];simp only[sh,mul];grind
theorem emod_dvd (p:Nat) (a:Int):(p:Int)∣a % (p:Int)-a:=by
 have:=Int.emod_add_mul_ediv a p;exact⟨-(a / p),by grind⟩
theorem Cm {p:Nat} {a b:Int} (h:(p:Int)∣a-b) (ha:0<=a) (ha2:a<p) (hb:0<=b) (hb2:b<p):a=b:=by
 obtain⟨k,hk⟩:=h;rcases Int.lt_trichotomy k 0 with g | g | g
 ·have:(p:Int)*k<=(p:Int)*(-1):=Int.mul_le_mul_of_nonneg_left (by omega) (by omega);omega
 ·subst g;omega
 ·have:(p:Int)*1<=(p:Int)*k:=Int.mul_le_mul_of_nonneg_left (by omega) (by omega);omega
theorem emod_eq_iff {p:Nat} {a b:Int} (hp:0<p):a % (p:Int)=b % (p:Int)↔(p:Int)∣a-b:=by
 constructor
 ·intro h;have h1:=emod_dvd p a;have h2:=emod_dvd p b;rw[h] at h1;have:=Int.dvd_sub h2 h1
  rwa [show b % (p:Int)-b-(b % (p:Int)-a)=a-b from by omega] at this
 ·intro h;refine Cm (p:=p) ?_ (Int.emod_nonneg _ (by omega)) (Int.emod_lt_of_pos _ (by omega)) (Int.emod_nonneg _ (by omega)) (Int.emod_lt_of_pos _ (by omega));have h1:=emod_dvd p a;have h2:=emod_dvd p b;have:=Int.dvd_add (Int.dvd_sub h1 h2) h
  rwa [show a % (p:Int)-a-(b % (p:Int)-b)+(a-b)=a % (p:Int)-b % (p:Int) from by omega] at this
theorem emod_zero_iff {p:Nat} {a:Int}:a % (p:Int)=0↔(p:Int)∣a:=⟨Int.dvd_of_emod_eq_zero,Int.emod_eq_zero_of_dvd⟩
theorem Ib {p:Nat} (hp:Num.Prime p) {a b:Int} (h:(p:Int)∣a*b):(p:Int)∣a∨(p:Int)∣b:=by
 rw[<- Int.natAbs_dvd_natAbs,Int.natAbs_mul] at h;rcases Num.euclid hp h with g | g
 ·exact Or.inl (Int.natAbs_dvd_natAbs.1 g)
 ·exact Or.inr (Int.natAbs_dvd_natAbs.1 g)
def cf (l:List Int):S:=fun n=>l.getD n 0
def tp (p:Nat) (f:S):Nat->Nat
 | 0=>0
 | n+1=>if f n % (p:Int)=0 then tp p f n else n+1
theorem tp_le (p:Nat) (f:S) (n:Nat):tp p f n<=n:=by
 induction n with
 | zero=>exact Nat.le_refl _
 | succ n ih=>unfold tp;split <;> omega
theorem tp_behind (p:Nat) (f:S) (n j:Nat) (h:tp p f n<=j) (hj:j<n):f j % (p:Int)=0:=by
 induction n with
 | zero=>omega
 | succ n ih =>
  unfold tp at h;split at h
  ·by_cases e:j=n
   ·subst e;assumption
   ·exact ih h (by omega)
  ·omega
theorem Zc (p:Nat) (f:S) (n:Nat) (h:0<tp p f n):f (tp p f n-1) % (p:Int)≠0:=by
 induction n with
 | zero=>simp[tp] at h
 | succ n ih =>
  unfold tp at h ⊢;split
  ·rename_i g;rw[if_pos g] at h;exact ih h
  ·assumption
theorem tp_unique (p:Nat) (f:S) (n t:Nat) (h1:t<=n) (h2:∀ j,t<=j->j<n->f j % (p:Int)=0) (h3:0<t->f (t-1) % (p:Int)≠0):tp p f n=t:=by
 rcases Nat.lt_trichotomy (tp p f n) t with g | g | g
 ·exact absurd (tp_behind p f n (t-1) (by omega) (by omega)) (h3 (by omega))
 ·exact g
 ·exact absurd (h2 _ (by omega) (by have:=tp_le p f n;omega)) (Zc p f n (by omega))
theorem aB8 (p:Nat) (f g:S) (n:Nat) (h:∀ j,j<n->(f j % (p:Int)=0↔g j % (p:Int)=0)):tp p f n=tp p g n:=by
 induction n with
 | zero=>rfl
 | succ n ih =>
  have h1:=h n (by omega);have h2:=ih (fun j hj=>h j (by omega));by_cases e:f n % (p:Int)=0
  ·rw[tp,tp,if_pos e,if_pos (h1.1 e),h2]
  ·rw[tp,tp,if_neg e,if_neg (fun k=>e (h1.2 k))]
theorem tp_mod (p:Nat) (f:S) (n:Nat):tp p (fun j=>f j % (p:Int)) n=tp p f n :=
 aB8 p _ _ n (fun j _=>by show f j % (p:Int) % (p:Int)=0↔_;rw[Int.emod_emod_of_dvd _ (Int.dvd_refl _)])
def mk (p:Nat) (f:S) (n:Nat):List Int:=(List.range (tp p f n)).map (fun j=>f j % (p:Int))
theorem mk_length (p:Nat) (f:S) (n:Nat):(mk p f n).length=tp p f n:=by simp[mk]
theorem mk_at (p:Nat) (f:S) (n j:Nat) (h:j<tp p f n):(mk p f n).getD j 0=f j % (p:Int):=by simp[mk,h]
structure Can (p:Nat) (l:List Int):Prop where
 elem:∀ j,j<l.length->0<=l.getD j 0/\l.getD j 0<p
 last:0<l.length->l.getD (l.length-1) 0≠0
theorem mk_can {p:Nat} (hp:0<p) (f:S) (n:Nat):Can p (mk p f n):=by
 refine⟨fun j hj=>?_,fun h=>?_⟩
 ·rw[mk_length] at hj;rw[mk_at p f n j hj];exact⟨Int.emod_nonneg _ (by omega),Int.emod_lt_of_pos _ (by omega)⟩
 ·rw[mk_length] at h ⊢;rw[mk_at p f n _ (by omega)];exact Zc p f n h
theorem aFh {p:Nat} (f g:S) (hf:∀ j,(p:Int)∣f j) (k:Nat):(p:Int)∣ml k f g:=by
 induction k generalizing f with
 | zero=>exact Int.dvd_mul_of_dvd_left (hf 0)
 | succ k ih=>exact Int.dvd_add (Int.dvd_mul_of_dvd_left (hf 0)) (ih _ (fun j=>hf (j+1)))
theorem aA5 {p:Nat} (f g:S) (m n:Nat) (hf:∀ j,m<=j->(p:Int)∣f j) (hg:∀ j,n<=j->(p:Int)∣g j) (k:Nat) (hk:m+n<=k+1):(p:Int)∣ml k f g:=by
 induction k generalizing f m with
 | zero =>
  simp only[ml];by_cases h:m=0
  ·exact Int.dvd_mul_of_dvd_left (hf 0 (by omega))
  ·exact Int.dvd_mul_of_dvd_right (hg 0 (by omega))
 | succ k ih =>
  by_cases h:m=0
  ·exact aFh f g (fun j=>hf j (by omega)) _
  ·simp only[ml];exact Int.dvd_add (Int.dvd_mul_of_dvd_right (hg _ (by omega))) (ih (tl f) (m-1) (fun j hj=>hf _ (by omega)) (by omega))
theorem Kw (f g:S) (m n:Nat) (hf:∀ j,m<=j->f j=0) (hg:∀ j,n<=j->g j=0) (k:Nat) (hk:m+n<=k+1):ml k f g=0:=by
 have:((0:Nat):Int)∣ml k f g:=aA5 (p:=0) f g m n (fun j hj=>by rw[hf j hj];exact Int.dvd_zero _) (fun j hj=>by rw[hg j hj];exact Int.dvd_zero _) k hk;exact Int.zero_dvd.1 this
def lo (i:Nat) (f:S):S:=fun n=>if n<i then f n else 0
theorem aDL (f:S):lo 0 f=zero:=by funext n;simp[lo,zero]
theorem aDM (i:Nat) (f:S):lo (i+1) f=add (lo i f) (sh i (sc (f i) one)):=by
 funext n;simp only[lo,add,sh,sc,one]
 by_cases h:n<i
 ·simp[h,show n<i+1 from by omega]
 ·by_cases e:n=i
  ·subst e;simp
  ·simp[show ¬ n<i+1 from by omega,show ¬ n<i from h,show n-i≠0 from by omega]
theorem Sh (i:Nat) (f g:S):mul (lo (i+1) f) g=add (mul (lo i f) g) (sh i (sc (f i) g)):=by
 rw[aDM,add_mul,aB7,aB6,one_mul]
def ps (f:S) (x:Int):Nat->Int
 | 0=>0
 | n+1=>ps f x n+f n*x ^ n
def hz (f:S) (x:Int) (n:Nat):Nat->Int
 | 0=>0
 | i+1=>hz f x n i*x+f (n-1-i)
theorem aFN (f:S) (x:Int) (n i:Nat) (hi:i<=n):ps f x (n-i)+x ^ (n-i)*hz f x n i=ps f x n:=by
 induction i with
 | zero=>simp[hz]
 | succ i ih =>
  have h:=ih (by omega);obtain⟨m,hm⟩:∃ m,n-i=m+1:=⟨n-i-1,by omega⟩
  rw[hm,ps] at h;rw[show n-(i+1)=m from by omega];rw[<- h,hz,show n-1-i=m from by omega,Int.pow_succ];grind
theorem hz_ps (f:S) (x:Int) (n:Nat):hz f x n n=ps f x n:=by
 have:=aFN f x n n (Nat.le_refl _);simpa [ps] using this
theorem Jt (f:S) (x:Int) (n:Nat):ps f x (n+1)=f 0+x*ps (tl f) x n:=by
 induction n with
 | zero=>simp[ps]
 | succ n ih=>rw[ps,ih,ps];simp only[tl];rw[Int.pow_succ];grind
theorem ps_congr {p:Nat} {f g:S} (x:Int) (n:Nat) (h:∀ j,j<n->(p:Int)∣f j-g j):(p:Int)∣ps f x n-ps g x n:=by
 induction n with
 | zero=>simp[ps]
 | succ n ih =>
  simp only[ps];obtain⟨k,hk⟩:=ih (fun j hj=>h j (by omega));obtain⟨m,hm⟩:=h n (by omega)
  exact⟨k+m*x ^ n,by
   rw[show ps f x n+f n*x ^ n-(ps g x n+g n*x ^ n)=(ps f x n-ps g x n)+(f n-g n)*x ^ n from by grind,hk,hm];grind⟩
def qd (f:S) (r:Int):Nat->S
 | 0=>zero
 | n+1=>fun k=>match k with | 0=>ps (tl f) r (n+1) | k+1=>qd (tl f) r n k
theorem aDN (f:S) (x r:Int) (n:Nat):ps f x (n+1)-ps f r (n+1)=(x-r)*ps (qd f r n) x n:=by
 induction n generalizing f with
 | zero=>simp[ps]
 | succ n ih =>
  rw[Jt f x,Jt f r,Jt (qd f r (n+1)),show tl (qd f r (n+1))=qd (tl f) r n from rfl,show qd f r (n+1) 0=ps (tl f) r (n+1) from rfl];have:=ih (tl f)
  grind
theorem aDO {p:Nat} (f:S) (r:Int) (n:Nat) (h0:(p:Int)∣ps f r (n+1)) (h:∀ k,k<n->(p:Int)∣qd f r n k):∀ j,j<n+1->(p:Int)∣f j:=by
 induction n generalizing f with
 | zero=>intro j hj;obtain rfl:j=0:=by omega
         simpa [ps] using h0
 | succ n ih =>
  have h1:(p:Int)∣ps (tl f) r (n+1):=h 0 (by omega);have h2:=ih (tl f) h1 (fun k hk=>h (k+1) (by omega));intro j hj;cases j with
  | zero =>
   rw[Jt] at h0;have:=Int.dvd_sub h0 (show (p:Int)∣r*ps (tl f) r (n+1) from Int.dvd_mul_of_dvd_right h1)
   rwa [show f 0+r*ps (tl f) r (n+1)-r*ps (tl f) r (n+1)=f 0 from by omega] at this
  | succ j=>exact h2 j (by omega)
theorem roots {p:Nat} (hp:Num.Prime p) (n:Nat) (f:S) (xs:Nat->Int) (hu:∀ i j,i<j->j<n->¬ (p:Int)∣xs j-xs i) (hr:∀ i,i<n->(p:Int)∣ps f (xs i) n):∀ j,j<n->(p:Int)∣f j:=by
 induction n generalizing f xs with
 | zero=>intro j hj;omega
 | succ n ih =>
  have h0:=hr 0 (by omega);refine aDO f (xs 0) n h0 (ih (qd f (xs 0) n) (fun i=>xs (i+1)) (fun i j h1 h2=>hu _ _ (by omega) (by omega)) (fun i hi=>?_));have h1:=Int.dvd_sub (hr (i+1) (by omega)) h0;rw[aDN] at h1;exact (Ib hp h1).resolve_left (hu 0 (i+1) (by omega) (by omega))
def lin (x:Int):S:=sub (sh 1 one) (sc x one)
theorem mul_lin (g:S) (x:Int):mul g (lin x)=sub (sh 1 g) (sc x g):=by
 rw[mul_comm,lin,sub_mul,aB7,aB6,one_mul]
def van (xs:Nat->Int):Nat->S
 | 0=>one
 | n+1=>mul (van xs n) (lin (xs n))
def vsk (xs:Nat->Int) (k:Nat):Nat->S
 | 0=>one
 | n+1=>if n=k then vsk xs k n else mul (vsk xs k n) (lin (xs n))
theorem aDP (xs:Nat->Int) (k n:Nat) (h:n<=k):vsk xs k n=van xs n:=by
 induction n with
 | zero=>rfl
 | succ n ih=>rw[vsk,if_neg (by omega),ih (by omega),van]
theorem aDQ (xs:Nat->Int) (k n:Nat) (h:k<n):van xs n=mul (vsk xs k n) (lin (xs k)):=by
 induction n with
 | zero=>omega
 | succ n ih =>
  rw[van,vsk];by_cases e:n=k
  ·subst e;rw[if_pos rfl,aDP _ _ _ (Nat.le_refl _)]
  ·rw[if_neg e,ih (by omega),mul_assoc,mul_assoc,mul_comm (lin (xs k))]
theorem van_zero (xs:Nat->Int) (n j:Nat) (h:n<j):van xs n j=0:=by
 induction n generalizing j with
 | zero=>simp[van,one];omega
 | succ n ih =>
  rw[van,mul_lin];simp only[sub,sh,sc];rw[if_neg (by omega),ih _ (by omega),ih _ (by omega)];simp
theorem van_top (xs:Nat->Int) (n:Nat):van xs n n=1:=by
 induction n with
 | zero=>simp[van,one]
 | succ n ih =>
  rw[van,mul_lin];simp only[sub,sh,sc];rw[if_neg (by omega),van_zero xs n (n+1) (by omega),Nat.add_sub_cancel,ih];simp
theorem vsk_zero (xs:Nat->Int) (k n j:Nat) (hk:k<n) (h:n<=j):vsk xs k n j=0:=by
 have key:∀ n j,(n<=k->n<j->vsk xs k n j=0)/\(k<n->n<=j->vsk xs k n j=0):=by
  intro n
  induction n with
  | zero=>intro j;exact⟨fun _ hj=>by simp[vsk,one];omega,fun h=>by omega⟩
  | succ n ih =>
   intro j;rw[vsk];by_cases e:n=k
   ·rw[if_pos e];exact⟨fun h=>by omega,fun _ hj=>(ih j).1 (by omega) (by omega)⟩
   ·rw[if_neg e,mul_lin];simp only[sub,sh,sc];refine⟨fun h1 h2=>?_,fun h1 h2=>?_⟩
    ·rw[if_neg (by omega),(ih _).1 (by omega) (by omega),(ih _).1 (by omega) (by omega)];simp
    ·rw[if_neg (by omega),(ih _).2 (by omega) (by omega),(ih _).2 (by omega) (by omega)];simp
 exact (key n j).2 hk h
theorem vsk_down (xs:Nat->Int) (k n to:Nat) (h:k<n):vsk xs k n to=van xs n (to+1)+vsk xs k n (to+1)*xs k:=by
 rw[aDQ xs k n h,mul_lin];simp only[sub,sh,sc];rw[if_neg (by omega),Nat.add_sub_cancel];grind
def dv (f:S):S:=fun n=>f (n+1)*((n:Int)+1)
theorem slope (xs:Nat->Int) (k n:Nat) (h:k<n) (m:Nat):ps (dv (van xs n)) (xs k) m=ps (vsk xs k n) (xs k) m-m*(vsk xs k n m*xs k ^ m):=by
 induction m with
 | zero=>simp[ps]
 | succ m ih =>
  rw[ps,ih,ps];have:=vsk_down xs k n m h;simp only[dv];rw[Int.pow_succ]
  push_cast
  grind
end Go.Proofs.YtkdndfbfmchcpaaGreatDoor.Pol
namespace Go.Proofs.YtkdndfbfmchcpaaGreatDoor.Dom
open Pol
def sm (f:Nat->Int):Nat->Int
 | 0=>0
 | n+1=>sm f n+f n
theorem sm_add (f g:Nat->Int) (n:Nat):sm (fun i=>f i+g i) n=sm f n+sm g n:=by
 induction n with
 | zero=>rfl
 | succ n ih=>simp only[sm,ih];omega
theorem sm_mul (c:Int) (f:Nat->Int) (n:Nat):sm (fun i=>c*f i) n=c*sm f n:=by
 induction n with
 | zero=>simp[sm]
 | succ n ih=>simp only[sm,ih];grind
theorem aDR (n:Nat):sm (fun _=>0) n=0:=by
 induction n with
 | zero=>rfl
 | succ n ih=>simp only[sm,ih];omega
theorem sm_same {f g:Nat->Int} {n:Nat} (h:∀ i,i<n->f i=g i):sm f n=sm g n:=by
 induction n with
 | zero=>rfl
 | succ n ih=>simp only[sm];rw[ih (fun i hi=>h i (by omega)),h n (by omega)]
theorem sm_congr {p:Nat} {f g:Nat->Int} {n:Nat} (h:∀ i,i<n->(p:Int)∣f i-g i):(p:Int)∣sm f n-sm g n:=by
 induction n with
 | zero=>simp[sm]
 | succ n ih =>
  simp only[sm];have:=Int.dvd_add (ih (fun i hi=>h i (by omega))) (h n (by omega))
  rwa [show sm f n-sm g n+(f n-g n)=sm f n+f n-(sm g n+g n) from by omega] at this
theorem sm_swap (F:Nat->Nat->Int) (n m:Nat):sm (fun i=>sm (fun j=>F i j) m) n=sm (fun j=>sm (fun i=>F i j) n) m:=by
 induction n with
 | zero=>simp only[sm];rw[aDR]
 | succ n ih=>simp only[sm];rw[ih,sm_add]
theorem Fx (f:S) (x:Int) (n:Nat):ps f x n=sm (fun j=>f j*x ^ j) n:=by
 induction n with
 | zero=>rfl
 | succ n ih=>simp only[ps,sm,ih]
theorem geo (x:Int) (n:Nat):(x-1)*sm (fun i=>x ^ i) n=x ^ n-1:=by
 induction n with
 | zero=>simp[sm]
 | succ n ih=>simp only[sm];rw[Int.mul_add,ih,Int.pow_succ];grind
theorem Iq {p:Nat} {x:Int} (h:(p:Int)∣x-1) (k:Nat):(p:Int)∣x ^ k-1:=by
 have:=geo x k;rw[<- this];exact Int.dvd_mul_of_dvd_left h
structure Ord (p:Nat) (w:Int) (n:Nat):Prop where
 pos:0<n
 one:(p:Int)∣w ^ n-1
 no:∀ k,0<k->k<n->¬ (p:Int)∣w ^ k-1
theorem Ord.half {p:Nat} (hp:Num.Prime p) {w:Int} {m:Nat} (h:Ord p w (2*m)):(p:Int)∣w ^ m+1:=by
 have hpos:=h.pos;have:=h.one;rw[show w ^ (2*m)-1=(w ^ m-1)*(w ^ m+1) from by rw[Nat.two_mul,Int.pow_add];grind] at this;exact (Ib hp this).resolve_left (h.no m (by omega) (by omega))
theorem Ord.square {p:Nat} {w:Int} {m:Nat} (h:Ord p w (2*m)):Ord p (w*w) m:=by
 have e:∀ k,(w*w) ^ k=w ^ (2*k):=fun k=>by rw[Nat.two_mul,Int.pow_add];exact Int.mul_pow
 refine⟨by have:=h.pos;omega,by rw[e];exact h.one,fun k h1 h2=>by rw[e];exact h.no (2*k) (by omega) (by omega)⟩
def ev (f:S):S:=fun k=>f (2*k)
def od (f:S):S:=fun k=>f (2*k+1)
theorem Ob (f:S) (x:Int) (m:Nat):ps f x (2*m)=ps (ev f) (x*x) m+x*ps (od f) (x*x) m:=by
 induction m with
 | zero=>simp[ps]
 | succ m ih =>
  rw[show 2*(m+1)=2*m+1+1 from by omega,ps,ps,ih,ps,ps];have e:(x*x) ^ m=x ^ (2*m):=by rw[Nat.two_mul,Int.pow_add];exact Int.mul_pow
  simp only[ev,od];rw[e,Int.pow_succ]
  grind
theorem aFi {p:Nat} (f:S) {x y:Int} (h:(p:Int)∣y+x) (m:Nat):(p:Int)∣ps f y (2*m)-(ps (ev f) (x*x) m-x*ps (od f) (x*x) m):=by
 have e:=Ob f (-x) m;have e2:(-x)*(-x)=x*x:=by grind
 rw[e2] at e
 have hc:∀ k,(p:Int)∣y ^ k-(-x) ^ k:=fun k=>by
  induction k with
  | zero=>simp
  | succ k ih =>
   obtain⟨a,ha⟩:=ih;obtain⟨b,hb⟩:=h;exact⟨a*y+(-x) ^ k*b,by rw[Int.pow_succ,Int.pow_succ,show y ^ k*y-(-x) ^ k*-x=(y ^ k-(-x) ^ k)*y+(-x) ^ k*(y+x) from by grind,ha,hb];grind⟩
 have h1:(p:Int)∣ps f y (2*m)-ps f (-x) (2*m):=by rw[Fx,Fx];refine sm_congr (fun i _=>?_);obtain⟨a,ha⟩:=hc i;exact⟨f i*a,by rw[<- Int.mul_sub,ha];grind⟩
 rw[e] at h1
 rwa [show ps (ev f) (x*x) m+-x*ps (od f) (x*x) m=ps (ev f) (x*x) m-x*ps (od f) (x*x) m from by grind] at h1
theorem ps_point {p:Nat} (f:S) {x y:Int} (h:(p:Int)∣x-y) (n:Nat):(p:Int)∣ps f x n-ps f y n:=by
 have hc:∀ k,(p:Int)∣x ^ k-y ^ k:=fun k=>by
  induction k with
  | zero=>simp
  | succ k ih =>
   obtain⟨a,ha⟩:=ih;obtain⟨b,hb⟩:=h;exact⟨a*x+y ^ k*b,by rw[Int.pow_succ,Int.pow_succ,show x ^ k*x-y ^ k*y=(x ^ k-y ^ k)*x+y ^ k*(x-y) from by grind,ha,hb];grind⟩
 rw[Fx,Fx];refine sm_congr (fun i _=>?_);obtain⟨a,ha⟩:=hc i;exact⟨f i*a,by rw[<- Int.mul_sub,ha];grind⟩
theorem ps_add (f g:S) (x:Int) (n:Nat):ps (add f g) x n=ps f x n+ps g x n:=by
 induction n with
 | zero=>rfl
 | succ n ih=>simp only[ps,ih,add];grind
theorem ps_sc (c:Int) (f:S) (x:Int) (n:Nat):ps (sc c f) x n=c*ps f x n:=by
 induction n with
 | zero=>simp[ps]
 | succ n ih=>simp only[ps,ih,sc];grind
theorem ps_zero (x:Int) (n:Nat):ps zero x n=0:=by
 induction n with
 | zero=>rfl
 | succ n ih=>simp[ps,ih,zero]
theorem ps_stay (f:S) (x:Int) (n m:Nat) (h:n<=m) (hz:∀ j,n<=j->f j=0):ps f x m=ps f x n:=by
 induction m with
 | zero=>obtain rfl:n=0:=by omega
         rfl
 | succ m ih =>
  by_cases e:n=m+1
  ·rw[e]
  ·rw[ps,ih (by omega),hz m (by omega)];simp
theorem ps_sh (f:S) (x:Int) (k n:Nat):ps (sh k f) x (k+n)=x ^ k*ps f x n:=by
 induction n with
 | zero =>
  simp only[Nat.add_zero,ps,Int.mul_zero]
  have:∀ m,m<=k->ps (sh k f) x m=0:=fun m hm=>by
   induction m with
   | zero=>rfl
   | succ m ih=>rw[ps,ih (by omega)];simp only[sh];rw[if_pos (by omega)];simp
  exact this k (Nat.le_refl _)
 | succ n ih =>
  rw[show k+(n+1)=k+n+1 from by omega,ps,ih,ps];simp only[sh];rw[if_neg (by omega),show k+n-k=n from by omega,Int.pow_add]
  grind
theorem aB9 (f g:S) (x:Int) (n m:Nat) (hf:∀ j,n<=j->f j=0) (hg:∀ j,m<=j->g j=0):ps (mul f g) x (n+m)=ps f x n*ps g x m:=by
 have key:∀ i,i<=n->ps (mul (lo i f) g) x (n+m)=ps f x i*ps g x m:=fun i hi=>by
  induction i with
  | zero=>rw[aDL,zero_mul,ps_zero];simp[ps]
  | succ i ih =>
   rw[Sh,ps_add,ih (by omega),ps]
   have hz:∀ j,i+m<=j->sh i (sc (f i) g) j=0:=fun j hj=>by simp only[sh,sc];rw[if_neg (by omega),hg _ (by omega)];simp
   rw[ps_stay (sh i (sc (f i) g)) x (i+m) (n+m) (by omega) hz,ps_sh,ps_sc]
   grind
 have e:=key n (Nat.le_refl _)
 rwa [show lo n f=f from by
  funext j;simp only[lo]
  split
  ·rfl
  ·exact (hf j (by omega)).symm] at e
theorem pow_congr {p:Nat} {x y:Int} (h:(p:Int)∣x-y) (k:Nat):(p:Int)∣x ^ k-y ^ k:=by
 induction k with
 | zero=>simp
 | succ k ih =>
  obtain⟨a,ha⟩:=ih;obtain⟨b,hb⟩:=h;exact⟨a*x+y ^ k*b,by rw[Int.pow_succ,Int.pow_succ,show x ^ k*x-y ^ k*y=(x ^ k-y ^ k)*x+y ^ k*(x-y) from by grind,ha,hb];grind⟩
theorem Ord.congr {p:Nat} {w v:Int} {n:Nat} (h:Ord p w n) (e:(p:Int)∣w-v):Ord p v n:=by
 refine⟨h.pos,?_,fun k h1 h2 hd=>h.no k h1 h2 ?_⟩
 ·have:=Int.dvd_sub h.one (pow_congr e n)
  rwa [show w ^ n-1-(w ^ n-v ^ n)=v ^ n-1 from by omega] at this
 ·have:=Int.dvd_add hd (pow_congr e k)
  rwa [show v ^ k-1+(w ^ k-v ^ k)=w ^ k-1 from by omega] at this
theorem Ord.sqm {p:Nat} {w:Int} {m:Nat} (h:Ord p w (2*m)):Ord p (w*w % (p:Int)) m :=
 h.square.congr (by have:=Int.dvd_neg.2 (emod_dvd p (w*w));rwa [Int.neg_sub] at this)
def ft (p:Nat) (f:S) (r:Int) (n j:Nat):Int:=if n=1 then f j else ps f (r ^ j) n % (p:Int)
theorem Si {p:Nat} (f:S) (r:Int) {n j:Nat} (hj:j<n):(p:Int)∣ft p f r n j-ps f (r ^ j) n:=by
 unfold ft;split
 ·next h =>
  subst h;obtain rfl:j=0:=by omega
  simp[ps]
 ·exact emod_dvd p _
theorem ft_bounds {p:Nat} (hp:0<p) (f:S) (r:Int) {n:Nat} (hn:n≠1) (j:Nat):0<=ft p f r n j/\ft p f r n j<p:=by
 unfold ft;rw[if_neg hn];exact⟨Int.emod_nonneg _ (by omega),Int.emod_lt_of_pos _ (by omega)⟩
theorem ft_one (p:Nat) (f:S) (r:Int) (j:Nat):ft p f r 1 j=f j:=by simp[ft]
theorem Oc {p:Nat} (f:S) (r:Int) {m i:Nat} (hi:i<m) :
  (p:Int)∣ps (ev f) (r ^ i*r ^ i) m-ft p (ev f) (r*r % (p:Int)) m i/\(p:Int)∣ps (od f) (r ^ i*r ^ i) m-ft p (od f) (r*r % (p:Int)) m i:=by
 have h1:(p:Int)∣r ^ i*r ^ i-(r*r % (p:Int)) ^ i:=by
  have:=pow_congr (x:=r*r) (y:=r*r % (p:Int)) (p:=p) (by have:=Int.dvd_neg.2 (emod_dvd p (r*r));rwa [Int.neg_sub] at this) i
  rwa [Int.mul_pow] at this
 have key:∀ g:S,(p:Int)∣ps g (r ^ i*r ^ i) m-ft p g (r*r % (p:Int)) m i:=fun g=>by
  have:=Int.dvd_sub (ps_point g h1 m) (Si (p:=p) g (r*r % (p:Int)) hi)
  rwa [show ps g (r ^ i*r ^ i) m-ps g ((r*r % (p:Int)) ^ i) m-(ft p g (r*r % (p:Int)) m i-ps g ((r*r % (p:Int)) ^ i) m)=ps g (r ^ i*r ^ i) m-ft p g (r*r % (p:Int)) m i from by omega] at this
 exact⟨key _,key _⟩
theorem ft_low {p:Nat} (hp:0<p) (f:S) (r:Int) {m i:Nat} (hi:i<m) :
  (ft p (ev f) (r*r % (p:Int)) m i+(r ^ i % (p:Int))*ft p (od f) (r*r % (p:Int)) m i % (p:Int)) % (p:Int)=ft p f r (2*m) i:=by
 obtain⟨⟨a,ha⟩,⟨b,hb⟩⟩:=Oc (p:=p) f r hi;rw[show ft p f r (2*m) i=ps f (r ^ i) (2*m) % (p:Int) from by unfold ft;rw[if_neg (by omega)],emod_eq_iff hp,Ob];obtain⟨c,hc⟩:=emod_dvd p ((r ^ i % (p:Int))*ft p (od f) (r*r % (p:Int)) m i);obtain⟨d,hd⟩:=emod_dvd p (r ^ i);generalize (r ^ i % (p:Int))*ft p (od f) (r*r % (p:Int)) m i % (p:Int)=U at *;generalize ft p (od f) (r*r % (p:Int)) m i=V at *;generalize ft p (ev f) (r*r % (p:Int)) m i=T at *;generalize ps (ev f) (r ^ i*r ^ i) m=A at *;generalize ps (od f) (r ^ i*r ^ i) m=B at *;generalize r ^ i % (p:Int)=y at *;generalize r ^ i=x at *;refine⟨c+d*V-a-x*b,?_⟩;have h1:A=T+p*a:=by omega
 have h2:B=V+p*b:=by omega
 have h3:U=y*V+p*c:=by omega
 have h4:y=x+p*d:=by omega
 rw[h1,h2,h3,h4]
 grind
theorem ft_high {p:Nat} (hp:Num.Prime p) (f:S) {r:Int} {m:Nat} (h:Ord p r (2*m)) {i:Nat} (hi:i<m) :
  (ft p (ev f) (r*r % (p:Int)) m i-(r ^ i % (p:Int))*ft p (od f) (r*r % (p:Int)) m i % (p:Int)) % (p:Int)=ft p f r (2*m) (m+i):=by
 have hp2:=hp.1;obtain⟨⟨a,ha⟩,⟨b,hb⟩⟩:=Oc (p:=p) f r hi
 have hn:(p:Int)∣r ^ (m+i)+r ^ i:=by obtain⟨k,hk⟩:=h.half hp;exact⟨k*r ^ i,by rw[Int.pow_add,show r ^ m*r ^ i+r ^ i=(r ^ m+1)*r ^ i from by grind,hk];grind⟩
 obtain⟨z,hz⟩:=aFi f hn m;rw[show ft p f r (2*m) (m+i)=ps f (r ^ (m+i)) (2*m) % (p:Int) from by unfold ft;rw[if_neg (by omega)],emod_eq_iff (by omega)];obtain⟨c,hc⟩:=emod_dvd p ((r ^ i % (p:Int))*ft p (od f) (r*r % (p:Int)) m i);obtain⟨d,hd⟩:=emod_dvd p (r ^ i);generalize (r ^ i % (p:Int))*ft p (od f) (r*r % (p:Int)) m i % (p:Int)=U at *;generalize ft p (od f) (r*r % (p:Int)) m i=V at *;generalize ft p (ev f) (r*r % (p:Int)) m i=T at *;generalize ps (ev f) (r ^ i*r ^ i) m=A at *;generalize ps (od f) (r ^ i*r ^ i) m=B at *;generalize ps f (r ^ (m+i)) (2*m)=Q at *;generalize r ^ i % (p:Int)=y at *;generalize r ^ i=x at *;refine⟨x*b-c-d*V-a-z,?_⟩;have h1:A=T+p*a:=by omega
 have h2:B=V+p*b:=by omega
 have h3:U=y*V+p*c:=by omega
 have h4:y=x+p*d:=by omega
 have h5:Q=A-x*B+p*z:=by omega
 rw[h5,h1,h2,h3,h4]
 grind
def wrp (a:S) (s:Int) (n:Nat):Nat->S
 | 0=>zero
 | k+1=>fun t=>if t=k % n then wrp a s n k t+a k*s ^ k else wrp a s n k t
theorem Sj (f:S) (c y:Int) (i n:Nat):ps (fun t=>if t=i then f t+c else f t) y n=ps f y n+(if i<n then c*y ^ i else 0):=by
 induction n with
 | zero=>simp[ps]
 | succ n ih =>
  rw[ps,ps,ih];by_cases h:n=i
  ·subst h;rw[if_pos rfl,if_neg (by omega),if_pos (by omega)];grind
  ·rw[if_neg h];by_cases h2:i<n
   ·rw[if_pos h2,if_pos (by omega)];omega
   ·rw[if_neg h2,if_neg (by omega)];omega
theorem aA6 {p:Nat} {y:Int} {n:Nat} (hy:(p:Int)∣y ^ n-1) (k:Nat):(p:Int)∣y ^ (k % n)-y ^ k:=by
 obtain⟨a,ha⟩:=Iq hy (k / n)
 have e:y ^ k=y ^ (k % n)*(y ^ n) ^ (k / n):=by rw[<- Int.pow_mul,<- Int.pow_add,Nat.mod_add_div]
 exact⟨-(y ^ (k % n)*a),by rw[e];grind⟩
theorem aFj {p:Nat} (a:S) (s y:Int) {n:Nat} (hn:0<n) (hy:(p:Int)∣y ^ n-1) (k:Nat):(p:Int)∣ps (wrp a s n k) y n-ps a (s*y) k:=by
 induction k with
 | zero=>simp only[wrp,ps_zero,ps];exact Int.dvd_zero _
 | succ k ih =>
  have e:=Sj (wrp a s n k) (a k*s ^ k) y (k % n) n;rw[if_pos (Nat.mod_lt _ hn)] at e;rw[wrp,e,ps,Int.mul_pow];obtain⟨b,hb⟩:=ih;obtain⟨c,hc⟩:=aA6 hy k
  exact⟨b+a k*s ^ k*c,by
   have h1:y ^ (k % n)=y ^ k+p*c:=by omega
   have h2:ps (wrp a s n k) y n=ps a (s*y) k+p*b:=by omega
   rw[h1,h2];grind⟩
theorem Ord.pow_one {p:Nat} {r:Int} {n:Nat} (h:Ord p r n) (j:Nat):(p:Int)∣(r ^ j) ^ n-1:=by
 rw[<- Int.pow_mul,Nat.mul_comm,Int.pow_mul];exact Iq h.one j
theorem wrp_values {p:Nat} (hp:0<p) (a:S) (s:Int) {r:Int} {n:Nat} (h:Ord p r n) (N:Nat) {j:Nat} (hj:j<n) :
  ft p (fun t=>wrp a s n N t % (p:Int)) r n j=ps a (s*r ^ j) N % (p:Int):=by
 have h1:=Si (p:=p) (fun t=>wrp a s n N t % (p:Int)) r hj;have h2:=ps_congr (p:=p) (f:=fun t=>wrp a s n N t % (p:Int)) (g:=wrp a s n N) (r ^ j) n (fun t _=>emod_dvd p _);have h3:=aFj (p:=p) a s (r ^ j) h.pos (h.pow_one j) N;have h4:=Int.dvd_add (Int.dvd_add h1 h2) h3
 have hb:0<=ft p (fun t=>wrp a s n N t % (p:Int)) r n j/\ft p (fun t=>wrp a s n N t % (p:Int)) r n j<p:=by
  by_cases e:n=1
  ·subst e;rw[ft_one];exact⟨Int.emod_nonneg _ (by omega),Int.emod_lt_of_pos _ (by omega)⟩
  ·exact ft_bounds hp _ r e j
 have h5:=emod_dvd p (ps a (s*r ^ j) N);refine Cm (p:=p) ?_ hb.1 hb.2 (Int.emod_nonneg _ (by omega)) (Int.emod_lt_of_pos _ (by omega));have h6:=Int.dvd_sub h4 h5;generalize ft p (fun t=>wrp a s n N t % (p:Int)) r n j=A at *;generalize ps (fun t=>wrp a s n N t % (p:Int)) (r ^ j) n=B at *;generalize ps (wrp a s n N) (r ^ j) n=C at *;generalize ps a (s*r ^ j) N % (p:Int)=E at *;generalize ps a (s*r ^ j) N=D at *
 rwa [show A-B+(B-C)+(C-D)-(E-D)=A-E from by omega] at h6
theorem wrp_mod (p:Nat) (a:S) (s:Int) (n k:Nat):((wrp a s n k (k % n) % (p:Int))+a k*(s ^ k % (p:Int)) % (p:Int)) % (p:Int)=wrp a s n (k+1) (k % n) % (p:Int):=by
 show _=(if k % n=k % n then wrp a s n k (k % n)+a k*s ^ k else wrp a s n k (k % n)) % (p:Int);rw[if_pos rfl,Int.mul_emod (a k),Int.emod_emod_of_dvd _ (Int.dvd_refl _),<- Int.mul_emod,Int.add_emod,Int.emod_emod_of_dvd _ (Int.dvd_refl _),Int.emod_emod_of_dvd _ (Int.dvd_refl _),<- Int.add_emod]
def pt (p:Nat) (s r:Int) (i:Nat):Int:=s*r ^ i % (p:Int)
theorem pt_mul (p:Nat) (s r:Int) (i:Nat):s*(r ^ i % (p:Int)) % (p:Int)=pt p s r i:=by
 unfold pt;rw[Int.mul_emod s (r ^ i % (p:Int)),Int.emod_emod_of_dvd _ (Int.dvd_refl _),<- Int.mul_emod]
end Go.Proofs.YtkdndfbfmchcpaaGreatDoor.Dom
namespace Go.Proofs.YtkdndfbfmchcpaaGreatDoor.Num
theorem pwm_cast (p s e:Nat):((pwm p s e:Nat):Int)=(s:Int) ^ e % (p:Int):=by unfold pwm;simp
theorem Dp {p s e:Nat} (hp:2<=p):pwm p s e=1↔(p:Int)∣(s:Int) ^ e-1:=by
 rw[<- Pol.emod_eq_iff (by omega),<- pwm_cast,Int.emod_eq_of_lt (by omega) (by omega)];omega
theorem Pu {p m:Nat} (hp:Prime p) (h1:1<=m) (h2:m<p-1):∃ a,1<=a/\a<p/\pwm p a m≠1:=by
 refine Classical.byContradiction (fun hno=>?_);have hall:∀ a,1<=a->a<p->pwm p a m=1:=fun a ha hb=>Classical.byContradiction (fun h=>hno ⟨a,ha,hb,h⟩);have hp2:=hp.1
 let f:Pol.S:=Pol.add (Pol.sh m Pol.one) (Pol.sc (-1) Pol.one)
 have hone:∀ (x:Int) (n:Nat),Pol.ps Pol.one x (n+1)=1:=fun x n=>by rw[Dom.ps_stay Pol.one x 1 (n+1) (by omega) (fun j hj=>by simp only[Pol.one];rw[if_neg (by omega)])];simp[Pol.ps,Pol.one]
 have hval:∀ x:Int,Pol.ps f x (m+1)=x ^ m-1:=fun x=>by show Pol.ps (Pol.add (Pol.sh m Pol.one) (Pol.sc (-1) Pol.one)) x (m+1)=_;rw[Dom.ps_add,Dom.ps_sh,Dom.ps_sc,hone x m,hone x 0];omega
 have hz:=Pol.roots hp (m+1) f (fun i=>((i+1:Nat):Int)) (fun i j hij hj hd=>by
   have:=Int.le_of_dvd (by omega) hd
   omega) (fun i hi=>by
   rw[hval]
   exact (Dp hp2).1 (hall (i+1) (by omega) (by omega))) m (by omega)
 have hm:f m=1:=by show Pol.add (Pol.sh m Pol.one) (Pol.sc (-1) Pol.one) m=1;simp only[Pol.add,Pol.sh,Pol.sc,Pol.one];rw[if_neg (by omega),if_pos (by omega),if_neg (by omega)];rfl
 rw[hm] at hz;have:=Int.le_of_dvd (by decide) hz;omega
theorem Sk (p a b t:Nat):pwm p (a*b % p) t=pwm p a t*pwm p b t % p:=by
 unfold pwm;rw[<- Nat.pow_mod,Nat.mul_pow,Nat.mul_mod]
theorem aBA {p a b m n:Nat} (hp:2<=p) (ha:Ord p a m) (hb:Ord p b n) (hc:Nat.Coprime m n) (hd:m*n∣p-1):Ord p (a*b % p) (m*n):=by
 have hm:=ha.1;have hn:=hb.1;refine⟨Nat.mul_pos hm hn,hd,?_,fun q hq hqd h1=>?_⟩
 ·rw[Sk,Ar hp ha.2.2.1 n,Nat.mul_comm m n,Ar hp hb.2.2.1 m];exact Nat.mod_eq_of_lt (by omega)
 ·have hq2:=hq.1
  -- one of the two is divided
  have half:∀ {x y u v:Nat},Ord p x u->Ord p y v->Nat.Coprime u v->q∣u->pwm p (x*y % p) (u*v / q)=1->False:=fun {x y u v} hx hy huv hqu h=>by
   obtain⟨c,rfl⟩:=hqu
   have hc0:0<c:=by
    rcases Nat.eq_zero_or_pos c with g | g
    ·subst g;have:=hx.1;omega
    ·exact g
   rw[Nat.mul_assoc,Nat.mul_div_cancel_left _ (by omega)] at h;have hy1:pwm p y (c*v)=1:=by rw[Nat.mul_comm];exact Ar hp hy.2.2.1 c
   rw[Sk,hy1,Nat.mul_one] at h;have hx1:pwm p x (c*v)=1:=by rw[Nat.mod_eq_of_lt (pwm_lt p x _ (by omega))] at h;exact h
   have hdv:=Za hp hx hx1;have hdc:q*c∣c:=(Nat.Coprime.dvd_of_dvd_mul_right huv hdv)
   have:=Nat.le_of_dvd hc0 hdc;have h2c:2*c<=q*c:=Nat.mul_le_mul_right c hq2;omega
  rcases euclid hq hqd with g | g
  ·exact half ha hb hc g h1
  ·refine half hb ha hc.symm g ?_;rw[Nat.mul_comm b a,Nat.mul_comm n m];exact h1
theorem Ir (q:Nat) (hq:2<=q):∀ (b m:Nat),m<=b->1<=m->∃ e k,m=q ^ e*k/\¬ q∣k
 | 0,m,hb,h1=>by omega
 | b+1,m,hb,h1=>by
  by_cases hd:q∣m
  ·obtain⟨c,rfl⟩:=hd
   have hc:1<=c:=by
    rcases Nat.eq_zero_or_pos c with g | g
    ·subst g;omega
    ·exact g
   have h2c:2*c<=q*c:=Nat.mul_le_mul_right c hq;obtain⟨e,k,hek,hk⟩:=Ir q hq b c (by omega) hc;exact⟨e+1,k,by rw[hek,Nat.pow_succ,Nat.mul_comm (q ^ e) q,Nat.mul_assoc],hk⟩
  ·exact⟨0,m,by simp,hd⟩
theorem Vz {q r:Nat} (hq:Prime q) (hr:Prime r) (h:r∣q):r=q:=by
 rcases hq.2 r h with g | g
 ·have:=hr.1;omega
 ·exact g
theorem Fy {q r:Nat} (hq:Prime q) (hr:Prime r):∀ e,r∣q ^ e->r=q
 | 0,h=>by have:=Nat.le_of_dvd (by simp) h;have:=hr.1;simp at *;omega
 | e+1,h=>by
  rw[Nat.pow_succ] at h;rcases euclid hr h with g | g
  ·exact Fy hq hr e g
  ·exact Vz hq hr g
theorem Kx {p:Nat} (hp:Prime p) (h3:3<=p):∀ (b m:Nat),m<=b->1<=m->m∣p-1->∃ g,1<=g/\g<p/\Ord p g m
 | 0,m,hb,h1,_=>by omega
 | b+1,m,hb,h1,hd=>by
  have hp2:=hp.1;by_cases hm1:m=1
  ·subst hm1;refine⟨1,by omega,by omega,by omega,hd,Fv p 1 hp2,fun q hq hqd=>?_⟩;have:=Nat.le_of_dvd (by omega) hqd;have:=hq.1;omega
  ·obtain⟨q,hq,hqm⟩:=Bb m m (Nat.le_refl _) (by omega);have hq2:=hq.1;obtain⟨e,k,hek,hk⟩:=Ir q hq2 m m (Nat.le_refl _) h1
   have he:1<=e:=by
    rcases Nat.eq_zero_or_pos e with g | g
    ·subst g;rw[Nat.pow_zero,Nat.one_mul] at hek;rw[hek] at hqm;exact absurd hqm hk
    ·exact g
   have hk1:1<=k:=by
    rcases Nat.eq_zero_or_pos k with g | g
    ·subst g;exact absurd (Nat.dvd_zero q) hk
    ·exact g
   have hqe:1<=q ^ e:=Nat.pos_of_ne_zero (by have:=Nat.pow_pos (n:=e) (show 0<q by omega);omega)
   have hqe2:2<=q ^ e:=by
    obtain⟨e',rfl⟩:∃ e',e=e'+1:=⟨e-1,by omega⟩
    have hp':0<q ^ e':=Nat.pow_pos (show 0<q by omega);rw[Nat.pow_succ];have:1*2<=q ^ e'*q:=Nat.mul_le_mul hp' hq2;omega
   have hkm:k<m:=by have:2*k<=q ^ e*k:=Nat.mul_le_mul_right k hqe2;omega
   have hkd:k∣p-1:=Nat.dvd_trans ⟨q ^ e,by rw[hek,Nat.mul_comm]⟩ hd;have hqd:q ^ e∣p-1:=Nat.dvd_trans ⟨k,hek⟩ hd;obtain⟨g',hg1,hg2,hgo⟩:=Kx hp h3 b k (by omega) hk1 hkd
   -- one of the order q^e
   have hqp:q∣p-1:=Nat.dvd_trans hqm hd;obtain⟨c,hc⟩:=hqd
   have hc0:0<c:=by
    rcases Nat.eq_zero_or_pos c with g | g
    ·subst g;omega
    ·exact g
   obtain⟨e',rfl⟩:∃ e',e=e'+1:=⟨e-1,by omega⟩
   have hdiv:(p-1) / q=q ^ e'*c:=by rw[hc,Nat.pow_succ,Nat.mul_comm (q ^ e') q,Nat.mul_assoc,Nat.mul_div_cancel_left _ (by omega)]
   have hlt:(p-1) / q<p-1:=Nat.div_lt_self (by omega) (by omega);obtain⟨a,ha1,ha2,ha3⟩:=Pu hp (show 1<=(p-1) / q by rw[hdiv];exact Nat.mul_pos (Nat.pow_pos (by omega)) hc0) hlt
   have hbo:Ord p (pwm p a c) (q ^ (e'+1)):=by
    refine⟨hqe,⟨c,hc⟩,?_,fun r hr hrd=>?_⟩
    ·rw[Fu,Nat.mul_comm,<- hc];exact pwm_fermat hp ha1 ha2
    ·obtain rfl:=Fy hq hr _ hrd;rw[Fu,Nat.pow_succ,Nat.mul_div_cancel _ (by omega),Nat.mul_comm,<- hdiv];exact ha3
   have hcop:Nat.Coprime (q ^ (e'+1)) k:=by
    refine Nat.Coprime.pow_left _ ?_;rcases hq.2 (Nat.gcd q k) (Nat.gcd_dvd_left q k) with g | g
    ·exact g
    ·exact absurd (g ▸ Nat.gcd_dvd_right q k) hk
   have ho:=aBA hp2 hbo hgo hcop (by rw[<- hek];exact hd);refine⟨pwm p a c*g' % p,?_,Nat.mod_lt _ (by omega),by rw[hek];exact ho⟩;rcases Nat.eq_zero_or_pos (pwm p a c*g' % p) with g | g
   ·exfalso;have h1':=ho.2.2.1;rw[g] at h1';unfold pwm at h1';have hpos:0<q ^ (e'+1)*k:=Nat.mul_pos hqe hk1;rw[Nat.zero_pow hpos] at h1';simp at h1'
   ·exact g
theorem Wa {p:Nat} (hp:Prime p) (h3:3<=p):∃ g,1<=g/\g<p/\IsGen p g:=by
 obtain⟨g,h1,h2,h⟩:=Kx hp h3 (p-1) (p-1) (Nat.le_refl _) (by omega) (Nat.dvd_refl _);exact⟨g,h1,h2,h.2.2.2⟩
theorem genIs_some {p g:Nat} (hp:Prime p) (h3:3<=p) (h:GenIs p g):1<=g/\g<p/\IsGen p g:=by
 rcases h with h | ⟨_,h⟩
 ·exact⟨h.1,h.2.1,h.2.2.1⟩
 ·obtain⟨x,h1,h2,hx⟩:=Wa hp h3;exact absurd hx (h x h1 h2)
theorem root_circle {p g n:Nat} (hp:Prime p) (h3:3<=p) (h1:1<=g) (h2:g<p) (hg:IsGen p g) (hn:1<=n) (hd:n∣p-1):Dom.Ord p (pwm p g ((p-1) / n):Int) n:=by
 have hp2:=hp.1;obtain⟨c,hc⟩:=hd;rw[hc,Nat.mul_div_cancel_left c (by omega)];refine⟨hn,(Dp hp2).1 ?_,fun k hk0 hkn hk=>?_⟩
 ·rw[Fu,Nat.mul_comm,<- hc];exact pwm_fermat hp h1 h2
 ·have:=(Dp hp2).2 hk;rw[Fu] at this;have hdv:=Za hp2 (aDI hp h1 h2 hg) this;rw[hc] at hdv
  have hc0:0<c:=by
   rcases Nat.eq_zero_or_pos c with g | g
   ·subst g;omega
   ·exact g
  have hle:=Nat.le_of_dvd (Nat.mul_pos hc0 hk0) hdv;rw[Nat.mul_comm n c] at hle;have:=Nat.le_of_mul_le_mul_left hle hc0;omega
end Go.Proofs.YtkdndfbfmchcpaaGreatDoor.Num
namespace Go.Proofs.YtkdndfbfmchcpaaGreatDoor.Cod
open Pol Dom
end Go.Proofs.YtkdndfbfmchcpaaGreatDoor.Cod
namespace Go.Proofs.YtkdndfbfmchcpaaGreatDoor.Spo
open Pol Dom
def Apart (n m:Nat):Prop:=∀ i,2<=i->i∣n->¬ i∣m
theorem apart_gcd {n m:Nat} (hn:1<=n):Apart n m↔Nat.gcd n m=1:=by
 constructor
 ·intro h;have h1:=Nat.gcd_dvd_left n m;have h2:=Nat.gcd_dvd_right n m;have h3:0<Nat.gcd n m:=Nat.gcd_pos_of_pos_left _ hn;by_cases e:2<=Nat.gcd n m
  ·exact absurd h2 (h _ e h1)
  ·omega
 ·intro h i hi h1 h2;have:=Nat.dvd_gcd h1 h2;rw[h] at this;have:=Nat.le_of_dvd (by decide) this;omega
def PowIs (p n:Nat):Prop:=2<=n/\Apart n (p-1)/\∀ m,2<=m->m<n->¬ Apart m (p-1)
theorem pow_some {p:Nat} (h:5<=p):Apart (p-2) (p-1):=fun i hi h1 h2=>by
 have:=Nat.dvd_sub h2 h1;rw[show p-1-(p-2)=1 from by omega] at this;have:=Nat.le_of_dvd (by decide) this;omega
end Go.Proofs.YtkdndfbfmchcpaaGreatDoor.Spo
