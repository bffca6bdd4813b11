
import Derived.Test.YtkdndfbfmchcpaaGreatDoorTgBF
set_option maxRecDepth 1000000
set_option maxHeartbeats 8000000
namespace Go.Proofs.YtkdndfbfmchcpaaGreatDoor
variable {N asked c n q v:Nat}{W w:World}{a:Option Addr}{r s:Int}
open Go.RowKit
structure Plg where
 root:List Int
 mixed:List Int
 point:List Int
 ps:List Int
 rows:List (List Int)
 nodes:List (List Int)
structure PlA where
 a1:Option Addr
 a2:Option Addr
 a3:Option Addr
 ap:Option Addr
 ar:Option Addr
 an:Option Addr
 c1:Nat
 c2:Nat
 c3:Nat
 cp:Nat
 cr:Nat
 cn:Nat
structure PlW (w:World) (A:PlA) (o:Plg):Prop where
 l1:Lst w.heap.size w A.a1 A.c1 o.root
 l2:Lst w.heap.size w A.a2 A.c2 o.mixed
 l3:Lst w.heap.size w A.a3 A.c3 o.point
 lp:Lst w.heap.size w A.ap A.cp o.ps
 lr:LstR w.heap.size w A.ar A.cr o.rows
 ln:LstR w.heap.size w A.an A.cn o.nodes
abbrev plC (A:PlA) (o:Plg):Array Value:=#[.slice A.a1 o.root.length A.c1,.slice A.a2 o.mixed.length A.c2,.slice A.a3 o.point.length A.c3,.slice A.ap o.ps.length A.cp,.slice A.ar o.rows.length A.cr,.slice A.an o.nodes.length A.cn]
def opG (q n:Nat) (s r:Int) (N v asked:Nat) (t at' D:List Int):Plg :=
 ⟨ctz q n s r N v t,
  opM q v (pwl q (zat (pgD q n (ctz q n s r N v t) at' D) 0) (2 ^ (v / 2))) t,
  opM q v (wgL q (at'.take (v / 2))) t,
  pgP q n N asked (pgE q n (opM q v (pwl q (zat (pgD q n (ctz q n s r N v t) at' D) 0) (2 ^ (v / 2))) t) (opM q v (wgL q (at'.take (v / 2))) t) (pgD q n (ctz q n s r N v t) at' D)),
  shw q (cll q s r N (rwl (2 ^ (v-v / 2)) (2 ^ (v / 2)) t)) (pgP q n N asked (pgE q n (opM q v (pwl q (zat (pgD q n (ctz q n s r N v t) at' D) 0) (2 ^ (v / 2))) t) (opM q v (wgL q (at'.take (v / 2))) t) (pgD q n (ctz q n s r N v t) at' D))),
  ndf q n N (cll q s r N (rwl (2 ^ (v-v / 2)) (2 ^ (v / 2)) t)) (pgP q n N asked (pgE q n (opM q v (pwl q (zat (pgD q n (ctz q n s r N v t) at' D) 0) (2 ^ (v / 2))) t) (opM q v (wgL q (at'.take (v / 2))) t) (pgD q n (ctz q n s r N v t) at' D))) 0⟩
def opD (q n:Nat) (s r:Int) (N v asked:Nat) (t at' D:List Int):List Int :=
 pld q n asked (pgE q n (opG q n s r N v asked t at' D).mixed (opG q n s r N v asked t at' D).point (pgD q n (opG q n s r N v asked t at' D).root at' D))
theorem aFF (hN:1<=N) (D:List Int):∀ x,x∈ls (plz q n N D) asked->0<=x/\x<(N:Int):=fun x hx=>by
 unfold ls at hx;obtain⟨i,_,rfl⟩:=List.mem_map.1 hx;exact Mx (by omega) _ _
theorem aAl (hN:1<=N) (D:List Int):Dk (N:Int) (pgP q n N asked D):=aBi (Ec _) (aFF hN D)
theorem aFG (D:List Int):(pgP q n N asked D).length<=asked:=by
 unfold pgP;have h:=Ld (Ec (ls (plz q n N D) asked)).1 (fun x hx=>((Ec (ls (plz q n N D) asked)).2 x).1 hx);rw[kQ] at h;exact h
theorem Rg (h3:3<=q) (hN1:1<=N) (hN2:N<=65536) (t at' D:List Int) (ht:t.length=2 ^ v) :
  Ya q n N (v / 2) (opG q n s r N v asked t at' D).root (opG q n s r N v asked t at' D).ps (pgP q n N asked (pgE q n (opG q n s r N v asked t at' D).mixed (opG q n s r N v asked t at' D).point (pgD q n (opG q n s r N v asked t at' D).root at' D))) (opG q n s r N v asked t at' D).rows (opG q n s r N v asked t at' D).nodes=true /\
  agB q N r s (opG q n s r N v asked t at' D).mixed (opG q n s r N v asked t at' D).ps (opG q n s r N v asked t at' D).rows (fun l=>evz q l (zat (pgD q n (opG q n s r N v asked t at' D).root at' D) 0))=true /\
  agB q N r s (opG q n s r N v asked t at' D).point (opG q n s r N v asked t at' D).ps (opG q n s r N v asked t at' D).rows (fun l=>dtz q l.length l (wgL q (at'.take (v / 2))))=true:=by
 obtain⟨rows,hrows⟩:=exE (rwl (2 ^ (v-v / 2)) (2 ^ (v / 2)) t);have hM:rows.length=2 ^ (v / 2):=by rw[hrows,Ap]
 have hw:∀ k,k<2 ^ (v / 2)->(rat rows k).length=2 ^ (v-v / 2):=fun k hk=>by rw[hrows];exact Bh (by rw[ht];exact Eb v) hk
 obtain⟨pl,hpl⟩:=exE ((opG q n s r N v asked t at' D).ps);have hasc:Dk (N:Int) pl:=by rw[hpl];exact aAl hN1 _
 have hps:∀ k,k<pl.length->0<=zat pl k/\zat pl k<(N:Int):=fun k hk=>⟨(hasc k hk).1,(hasc k hk).2.1⟩
 have hcl:(cll q s r N rows).length=N:=Bf _ _ _ _ _;refine⟨?_,?_,?_⟩
 ·unfold Ya;rw[Bool.and_eq_true,Bool.and_eq_true];refine⟨decide_eq_true rfl,Zy (fun k hk=>?_),?_⟩
  ·show (rat (shw q (cll q s r N (rwl (2 ^ (v-v / 2)) (2 ^ (v / 2)) t)) (opG q n s r N v asked t at' D).ps) k).length=_
   have hk':k<pl.length:=by
    have:k<(shw q (cll q s r N rows) pl).length:=by rw[hrows,hpl];exact hk
    rwa [Dj] at this
   rw[<- hrows,<- hpl,Pa h3 hM hk' (hps k hk'),kQ]
  ·show Eu q n (ctz q n s r N v t) (N:Int) (opG q n s r N v asked t at' D).ps (shw q (cll q s r N (rwl (2 ^ (v-v / 2)) (2 ^ (v / 2)) t)) (opG q n s r N v asked t at' D).ps) (ndf q n N (cll q s r N (rwl (2 ^ (v-v / 2)) (2 ^ (v / 2)) t)) (opG q n s r N v asked t at' D).ps 0)=true;unfold ctz;rw[<- hrows,<- hpl];have h:=aBk h3 n (cll q s r N rows) pl (by omega) (by omega) (by rw[hcl];exact hasc);rw[hcl] at h;exact h
 ·show agB q N r s (opM q v (pwl q (zat (pgD q n (opG q n s r N v asked t at' D).root at' D) 0) (2 ^ (v / 2))) t) (opG q n s r N v asked t at' D).ps (shw q (cll q s r N (rwl (2 ^ (v-v / 2)) (2 ^ (v / 2)) t)) (opG q n s r N v asked t at' D).ps) _=true;unfold opM;rw[<- hrows,<- hpl];exact aAg h3 _ hM hw hps _ (fun l hl=>by rw[Jv h3,hl])
 ·show agB q N r s (opM q v (wgL q (at'.take (v / 2))) t) (opG q n s r N v asked t at' D).ps (shw q (cll q s r N (rwl (2 ^ (v-v / 2)) (2 ^ (v / 2)) t)) (opG q n s r N v asked t at' D).ps) _=true;unfold opM;rw[<- hrows,<- hpl];exact aAg h3 _ hM hw hps _ (fun l hl=>by rw[hl,Tb])
theorem Nd (h3:3<=q) (h4:q<=2147483647) (hN1:1<=N) (hN2:N<=65536) (hv:v<=12) (ha:asked<=64) (t at' D:List Int) (hat:at'.length=v) (hfa:Fits at') :
  PlF (opG q n s r N v asked t at' D).root (opG q n s r N v asked t at' D).mixed (opG q n s r N v asked t at' D).point (opG q n s r N v asked t at' D).ps (opG q n s r N v asked t at' D).rows (opG q n s r N v asked t at' D).nodes at'/\(opG q n s r N v asked t at' D).root.length=4/\(opG q n s r N v asked t at' D).mixed.length=2 ^ (v-v / 2)/\(opG q n s r N v asked t at' D).point.length=2 ^ (v-v / 2):=by
 have hm12:2 ^ (v / 2)<=4096:=by have:=Nat.pow_le_pow_right (show 0<2 by omega) (show v / 2<=12 by omega);omega
 have hst2:2 ^ (v-v / 2)<=4096:=by have:=Nat.pow_le_pow_right (show 0<2 by omega) (show v-v / 2<=12 by omega);omega
 have hasc:Dk (N:Int) (opG q n s r N v asked t at' D).ps:=aAl hN1 _;have hle:(opG q n s r N v asked t at' D).ps.length<=asked:=aFG _;have hcl:(cll q s r N (rwl (2 ^ (v-v / 2)) (2 ^ (v / 2)) t)).length=N:=Bf _ _ _ _ _;have hCF:Ak (cll q s r N (rwl (2 ^ (v-v / 2)) (2 ^ (v / 2)) t)):=Mu h3 h4 s r N _ hN2 (by rw[Ap];exact hm12);have hr4:(opG q n s r N v asked t at' D).root.length=4:=Ek _ _ _ _ hN1;have hm:(opG q n s r N v asked t at' D).mixed.length=2 ^ (v-v / 2):=Ga _ _ _ _;have hp:(opG q n s r N v asked t at' D).point.length=2 ^ (v-v / 2):=Ga _ _ _ _;have hrl:(opG q n s r N v asked t at' D).rows.length=(opG q n s r N v asked t at' D).ps.length:=Dj _ _ _
 have hnl:(opG q n s r N v asked t at' D).nodes.length<=N:=by have h:=Rk q n N (cll q s r N (rwl (2 ^ (v-v / 2)) (2 ^ (v / 2)) t)) (opG q n s r N v asked t at' D).ps 0 (by omega);rw[hcl] at h;exact h
 refine⟨⟨?_,Dv h4 h3 _ _ _ _,Dv h4 h3 _ _ _ _,fun j hj=>?_,aDq h3 h4 hCF (by rw[hcl];exact hasc),?_,hfa,by omega,by omega,by omega,by omega,by omega,by omega,by omega⟩,hr4,hm,hp⟩
 ·show Fits (ctz q n s r N v t);unfold ctz;exact fun j hj=>Sm h3 h4 _ _ _ _ hj
 ·have:=hasc j hj;omega
 ·have h:=aDs h3 h4 n (rows:=cll q s r N (rwl (2 ^ (v-v / 2)) (2 ^ (v / 2)) t)) (opG q n s r N v asked t at' D).ps (by omega);rw[hcl] at h;exact h
theorem aAm (t at' D:List Int) (hat:at'.length=v):dtz q (2 ^ (v-v / 2)) (opG q n s r N v asked t at' D).point (wgL q (at'.drop (v / 2)))=Sum.ext (zat t) (zat at') at'.length % (q:Int):=by
 show dtz q (2 ^ (v-v / 2)) (opM q v (wgL q (at'.take (v / 2))) t) (wgL q (at'.drop (v / 2)))=_;unfold opM;rw[Yc (hi:=v / 2) (lo:=v-v / 2) t at' (by omega),hat,show v / 2+(v-v / 2)=v from by omega]
structure PlS (w:World) (A:PlA) (o:Plg):Prop where
 s1:SlR w o.root (.slice A.a1 o.root.length A.c1)
 s2:SlR w o.mixed (.slice A.a2 o.mixed.length A.c2)
 s3:SlR w o.point (.slice A.a3 o.point.length A.c3)
 sp:SlR w o.ps (.slice A.ap o.ps.length A.cp)
 sr:OwnR 0 w (.slice A.ar o.rows.length A.cr) o.rows
 sn:OwnR 0 w (.slice A.an o.nodes.length A.cn) o.nodes
theorem Hn{l:List Int} (h:SlR w l (.slice a n c)):Lst w.heap.size w a c l:=by
 obtain⟨a',c',e,hl⟩:=h.lst;cases e;exact hl
theorem Pc{base:Nat}{rs:List (List Int)} (h:OwnR base w (.slice a n c) rs):LstR w.heap.size w a c rs:=by
 obtain⟨a',c',e,hl⟩:=h.lst;cases e;exact hl
theorem PlS.plw{A:PlA}{o:Plg} (h:PlS w A o):PlW w A o:=⟨Hn h.s1,Hn h.s2,Hn h.s3,Hn h.sp,Pc h.sr,Pc h.sn⟩
theorem PlS.keep{A:PlA}{o:Plg} (h:PlS w A o) (e:Below w.heap.size w W):PlS W A o:=⟨SlR.keep h.s1 e,SlR.keep h.s2 e,SlR.keep h.s3 e,SlR.keep h.sp e,OwnR.keep h.sr e,OwnR.keep h.sn e⟩
theorem PlS.pstep{A:PlA}{o:Plg}{N0:Nat}{D:List Int} (h:PlS w A o) (hc:PCh N0 q n w c D) (e:w.grownBy W (some c)):PlS W A o:=⟨SlR.pstep h.s1 hc e,SlR.pstep h.s2 hc e,SlR.pstep h.s3 hc e,SlR.pstep h.sp hc e,OwnR.pstep h.sr hc e,OwnR.pstep h.sn hc e⟩
theorem aBj (N0 q n dd sb sp c b d v cT c4 N asked ap o:Nat) (s r:Int) (a4:Option Addr) (t at' D:List Int) (w:World) (ok:SpgOk q n dd) (hP:PCh N0 q n w c D) (hD0:Dig D)
  (RO:∀ W,w.grownBy W (some c)->SpgAt W sp sb q n dd/\DO W q b d N r s/\Lst W.heap.size W (some ⟨ap,o,none⟩) cT t/\Lst W.heap.size W a4 c4 at') (hT:TabAt 1 Lib.deBruijn64tab w) (hv:v<=12) (hat:at'.length=v) (ht:t.length=2 ^ v) (hft:Fits t) (hfa:Fits at') (ha1:1<=asked) (ha:asked<=64) (hf:2 ^ (v-v / 2)<=N / 2) :
  Calls Tryz.prog 13 #[.pointer (some ⟨sp,0,none⟩),.pointer (some ⟨c,0,none⟩),.pointer (some ⟨d,0,none⟩),.slice (some ⟨ap,o,none⟩) t.length cT,.slice a4 at'.length c4,.int .i64 (asked:Int)] w fun e w'=>∃ A:PlA,e=.returned (.tuple #[.agg (plC A (opG q n s r N v asked t at' D)),.int .i64 (Sum.ext (zat t) (zat at') at'.length % (q:Int)),.nilIface])/\PlS w' A (opG q n s r N v asked t at' D)/\PCh N0 q n w' c (opD q n s r N v asked t at' D)/\w.grownBy w' (some c):=by
 refine (aBh N0 q n dd sb sp c b d v cT c4 N asked ap o s r a4 t at' D w ok hP hD0 RO hT hv hat ht hft hfa ha1 ha hf).mono ?_;rintro e w' ⟨root,mixed,point,D1,D2,pl,u0,u1,u2,u3,u4,u5,⟨rfl,rfl,rfl,rfl,rfl,rfl⟩,rfl,⟨h0,h1,h2,h3,h4,h5⟩,hc,hg⟩;obtain⟨a0,c0,rfl,_⟩:=h0.lst;obtain⟨a1,c1,rfl,_⟩:=h1.lst;obtain⟨a2,c2,rfl,_⟩:=h2.lst;obtain⟨a3,c3,rfl,_⟩:=h3.lst;obtain⟨a5,c5,rfl,_⟩:=h4.lst;obtain⟨a6,c6,rfl,_⟩:=h5.lst;rw[<- aAm (q:=q) (n:=n) (N:=N) (v:=v) (asked:=asked) (s:=s) (r:=r) t at' D hat];exact⟨⟨a0,a1,a2,a3,a5,a6,c0,c1,c2,c3,c5,c6⟩,rfl,⟨h0,h1,h2,h3,h4,h5⟩,hc,hg⟩
theorem Yf (N0 q n dd sb sp b d N v asked c:Nat) (r s:Int) (A:PlA) (a4:Option Addr) (c4:Nat) (t at' D:List Int) (w:World)
  (O:PlO w c q n dd sb sp b d N r s A.a1 A.a2 A.a3 A.ap A.ar A.an a4 A.c1 A.c2 A.c3 A.cp A.cr A.cn c4 (opG q n s r N v asked t at' D).root (opG q n s r N v asked t at' D).mixed (opG q n s r N v asked t at' D).point (opG q n s r N v asked t at' D).ps (opG q n s r N v asked t at' D).rows (opG q n s r N v asked t at' D).nodes at') (ok:SpgOk q n dd) (hP:PCh N0 q n w c D) (hD:Dig D)
  (h3:3<=q) (h4:q<=2147483647) (hN1:1<=N) (hN2:N<=65536) (hv:v<=12) (hf:2 ^ (v-v / 2)<=N / 2) (hat:at'.length=v) (ht:t.length=2 ^ v) (hfa:Fits at') (ha1:1<=asked) (ha:asked<=64) :
  Calls Tryz.prog 14 #[.pointer (some ⟨sp,0,none⟩),.pointer (some ⟨c,0,none⟩),.pointer (some ⟨d,0,none⟩),.int .i64 (v:Int),.slice a4 at'.length c4,.int .i64 (asked:Int),.agg (plC A (opG q n s r N v asked t at' D))] w fun e w'=>e=.returned (.tuple #[.int .i64 (Sum.ext (zat t) (zat at') at'.length % (q:Int)),.bool true])/\PCh N0 q n w' c (opD q n s r N v asked t at' D)/\w.grownBy w' (some c):=by
 obtain⟨hF,e1,e2,e3⟩:=Nd (n:=n) (s:=s) (r:=r) h3 h4 hN1 hN2 hv ha t at' D hat hfa;refine (Yb N0 q n dd sb sp b d N v asked c r s A.a1 A.a2 A.a3 A.ap A.ar A.an a4 A.c1 A.c2 A.c3 A.cp A.cr A.cn c4 (opG q n s r N v asked t at' D).root (opG q n s r N v asked t at' D).mixed (opG q n s r N v asked t at' D).point (opG q n s r N v asked t at' D).ps (opG q n s r N v asked t at' D).rows (opG q n s r N v asked t at' D).nodes at' D w O hF ok hP hD hv hf hat ha1 ha e1 e2 e3).mono ?_;rintro e w' ⟨hy,_,hc,hg⟩;have he:=hy (Rg h3 hN1 hN2 t at' D ht);rw[e3,aAm t at' D hat] at he;exact⟨he,hc,hg⟩
end Go.Proofs.YtkdndfbfmchcpaaGreatDoor
