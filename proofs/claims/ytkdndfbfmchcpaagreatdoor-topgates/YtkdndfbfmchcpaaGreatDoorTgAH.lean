
import Derived.Test.YtkdndfbfmchcpaaGreatDoorTgAG
set_option maxRecDepth 1000000
set_option maxHeartbeats 8000000
namespace Go.Proofs.YtkdndfbfmchcpaaGreatDoor
variable {L1 L2 N1 c g i m n n0 p r1 r2:Nat}{T T1 T2 l t z:List Int}{a ab:Option Addr}{lv mv tb v x1 xv y1:Value}{w w':World}
open Go.RowKit
theorem Gt{f g:Nat->Int}{v:Nat} (i:Nat) (h:∀ j,j<v->f j=g j):Sum.wgt f v i=Sum.wgt g v i:=by
 rw[<- Gl,<- Gl];refine Sum.prz_same (fun k hk=>?_);unfold wgf;rw[h k hk]
theorem Cq{j:Nat} (h:j<m):zat (l.take m) j=zat l j:=by
 simp[zat,h]
theorem Cr (l:List Int) (m j:Nat):zat (l.drop m) j=zat l (m+j):=by
 simp[zat,List.getElem?_drop]
def ptd (p:Nat) (gs:List GatZ) (below:List Int) (n:Nat) (z X Y:List Int) (i:Nat):Int :=
 Sum.wgt (zat z) z.length i*Sum.wgt (zat X) X.length ((gat gs i).a.toNat / 2 ^ (n-X.length))*Sum.wgt (zat Y) Y.length ((gat gs i).b.toNat / 2 ^ (n-Y.length)) *
  jnz p (gat gs i).kind (zat (fxs p below (zat X) X.length) ((gat gs i).a.toNat % 2 ^ (n-X.length))) (zat (fxs p below (zat Y) Y.length) ((gat gs i).b.toNat % 2 ^ (n-Y.length)))
theorem aFy{gs:List GatZ}{xs:List Int} (hm:m=min xs.length n):ptt p gs t n z xs i=ptd p gs t n z (xs.take m) (xs.drop m) i:=by
 unfold ptt ptd;rw[<- hm];have e1:(xs.take m).length=m:=by rw[List.length_take];omega
 have e2:(xs.drop m).length=xs.length-m:=by rw[List.length_drop]
 rw[e1,e2];rw[Gt (f:=zat (xs.take m)) (g:=zat xs) _ (fun j hj=>Cq hj),Gt (f:=zat (xs.drop m)) (g:=fun j=>zat xs (m+j)) _ (fun j _=>Cr xs m j)];rw[Gq (fs:=zat (xs.take m)) (gs:=zat xs) m (fun j hj=>Cq hj),Gq (fs:=zat (xs.drop m)) (gs:=fun j=>zat xs (m+j)) _ (fun j _=>Cr xs m j)]
theorem aC3{gs:List GatZ}{X Y:List Int}:(Dom.sm (ptd p gs t n z X Y) i % (p:Int)+Sum.prz (zat [Sum.wgt (zat z) z.length i % (p:Int),Sum.wgt (zat X) X.length ((gat gs i).a.toNat / 2 ^ (n-X.length)) % (p:Int),Sum.wgt (zat Y) Y.length ((gat gs i).b.toNat / 2 ^ (n-Y.length)) % (p:Int),jnz p (gat gs i).kind (zat (fxs p t (zat X) X.length) ((gat gs i).a.toNat % 2 ^ (n-X.length))) (zat (fxs p t (zat Y) Y.length) ((gat gs i).b.toNat % 2 ^ (n-Y.length)))]) 4 % (p:Int)) % (p:Int)=Dom.sm (ptd p gs t n z X Y) (i+1) % (p:Int):=by
 refine jK ?_;rw[Dom.sm];refine Sum.dvd_add_sub (Pol.emod_dvd p _) ?_;unfold ptd;generalize Sum.wgt (zat z) z.length i=u1;generalize Sum.wgt (zat X) X.length _=u2;generalize Sum.wgt (zat Y) Y.length _=u3;generalize jnz p _ _ _=J;have e:Sum.prz (zat [u1 % (p:Int),u2 % (p:Int),u3 % (p:Int),J]) 4=u1 % (p:Int)*(u2 % (p:Int))*(u3 % (p:Int))*J:=by simp[Sum.prz,zat]
 rw[e];have h:=Sum.dvd_mul_sub (Sum.dvd_mul_sub (Sum.dvd_mul_sub (Pol.emod_dvd p u1) (Pol.emod_dvd p u2)) (Pol.emod_dvd p u3)) (show (p:Int)∣J-J by rw[Int.sub_self];exact Int.dvd_zero _);have h2:=Pol.emod_dvd p (u1 % (p:Int)*(u2 % (p:Int))*(u3 % (p:Int))*J);have:=Int.dvd_add h2 h;generalize u1 % (p:Int)*(u2 % (p:Int))*(u3 % (p:Int))*J % (p:Int)=A at *;generalize u1 % (p:Int)*(u2 % (p:Int))*(u3 % (p:Int))*J=B at *;generalize u1*u2*u3*J=D at *
 rwa [show A-B+(B-D)=A-D from by omega] at this
def adS (a:Option Addr) (cap m:Nat):Option Addr:=if cap=m then a else a.map fun x=>x.add m
theorem Ql{cap:Nat} (h:RowB n0 w a l) (hc:l.length<=cap):RowB n0 w (adS a cap m) (l.drop m):=fun k hk=>by
 rw[List.length_drop] at hk;obtain⟨b,o,rfl,h2,h3⟩:=h (m+k) (by omega);refine⟨b,o+m,?_,h2,?_⟩
 ·unfold adS;rw[if_neg (show ¬ cap=m by omega),Option.map_some,Addr.add];by_cases e:m=0
  ·rw[if_pos e,e];rfl
  ·rw[if_neg e]
 ·rw[Cr,Nat.add_assoc];exact h3
theorem Lw (h:RowB n0 w a l):RowB n0 w a (l.take m):=fun k hk=>by
 rw[List.length_take] at hk;rw[Cq (by omega)];exact h k (by omega)
theorem Cs (m:Nat) (h:Fits l):Fits (l.take m):=fun k hk=>by
 rw[List.length_take] at hk;rw[Cq (by omega)];exact h k (by omega)
theorem Ct (m:Nat) (h:Fits l):Fits (l.drop m):=fun k hk=>by
 rw[List.length_drop] at hk;rw[Cr];exact h (m+k) (by omega)
def sdA (fv:Value) (r:Nat) (L:Nat) (a:Option Addr) (c:Nat):Array Value:=#[fv,.int .i64 (r:Int),.slice a L c]
def SdW (N1:Nat) (ab:Option Addr) (w:World) (T:List Int) (a:Option Addr) (c:Nat):Prop:=Lst w.heap.size w a c T/\(a=ab∨∃ g,a=some ⟨g,0,none⟩/\N1<=g)
theorem SdW.below (h:SdW N1 ab w T a c) (hb:Below w.heap.size w w'):SdW N1 ab w' T a c:=⟨(h.1.below hb).mono hb.size,h.2⟩
theorem SdW.setRow (h:SdW N1 ab w T a c) (hT:0<T.length) (hab:∀ x,ab=some x->x.block<N1) (hg:N1<=g) {sa:Option Addr} {sl sc:Nat} {u1 u2:Value} {ty:TypeId} (hg2:w.heap[g]?=some (.cells #[.slice sa sl sc,u1,u2] ty (0,0))) (cs:Array Value):SdW N1 ab (w.setRow g cs) T a c:=by
 refine⟨⟨fun q hq=>?_,h.1.room,h.1.nil⟩,h.2⟩;obtain⟨b',o',e1,e2,e4⟩:=h.1.row q hq
 have hne:b'≠g:=by
  rcases h.2 with h2 | ⟨h',h2,hh⟩
  ·have:=hab _ (h2.symm.trans e1);simp only at this;omega
  ·rintro rfl;rw[h2] at e1;injection e1 with e1
   injection e1 with e7 e8 _
   subst e7;obtain⟨b3,o3,e5,_,e6⟩:=h.1.row 0 hT;rw[h2] at e5;injection e5 with e5
   injection e5 with e9 e10 _
   subst e9;subst e10;simp[World.cell?,hg2] at e6
 refine⟨b',o',e1,by simpa [World.setRow] using e2,?_⟩;exact (World.cell?_of_block (w:=w) (a:=⟨b',o'+q,none⟩) (setRow_other w g b' cs hne)).trans e4
def ptF (lv tb xv mv x1 y1:Value) (N1:Nat) (ab:Option Addr) (r1 r2 L1 L2:Nat) (T1 T2:List Int) (w:World):Nat->Value->Prop
 | 0,v=>v=lv
 | 1,v=>v=tb
 | 2,v=>v=xv
 | 3,v=>v=mv
 | 4,v=>v=x1
 | 5,v=>∃ a c,v=.agg (sdA x1 r1 L1 a c)/\SdW N1 ab w T1 a c
 | 6,v=>v=lv
 | 7,v=>v=tb
 | 8,v=>v=xv
 | 9,v=>v=mv
 | 10,v=>v=y1
 | 11,v=>∃ a c,v=.agg (sdA y1 r2 L2 a c)/\SdW N1 ab w T2 a c
 | 12,v=>∃ g,v=.pointer (some ⟨g,0,none⟩)/\N1<=g/\w.heap[g]?=some (.cells #[.slice none 0 0,.int .i64 0,.slice none 0 0] 186 (0,0))
 | 13,v=>∃ g,v=.pointer (some ⟨g,0,none⟩)/\N1<=g/\w.heap[g]?=some (.cells #[.slice none 0 0,.int .i64 0,.slice none 0 0] 186 (0,0))
 | _,_=>True
theorem Bq {x} (h:w.heap[g]?=some x):g<w.heap.size:=(Array.getElem?_eq_some_iff.1 h).1
theorem aC4 (hb:Below w.heap.size w w'):∀ (k:Nat) (v:Value),ptF lv tb xv mv x1 y1 N1 ab r1 r2 L1 L2 T1 T2 w k v->ptF lv tb xv mv x1 y1 N1 ab r1 r2 L1 L2 T1 T2 w' k v
 | 0,_,h=>h
 | 1,_,h=>h
 | 2,_,h=>h
 | 3,_,h=>h
 | 4,_,h=>h
 | 5,_,⟨a,c,h1,h2⟩=>⟨a,c,h1,h2.below hb⟩
 | 6,_,h=>h
 | 7,_,h=>h
 | 8,_,h=>h
 | 9,_,h=>h
 | 10,_,h=>h
 | 11,_,⟨a,c,h1,h2⟩=>⟨a,c,h1,h2.below hb⟩
 | 12,_,⟨g,h1,h2,h3⟩=>⟨g,h1,h2,(hb.block g (Bq h3)).trans h3⟩
 | 13,_,⟨g,h1,h2,h3⟩=>⟨g,h1,h2,(hb.block g (Bq h3)).trans h3⟩
 | _+14,_,_=>trivial
def ptN (L:Array Bool) (σ:Nat->Value):Prop:=L.getD 12 false=true->L.getD 13 false=true->σ 12≠σ 13
theorem ptN.keep{L:Array Bool}{σ:Nat->Value} (h:ptN L σ) (h1:i≠12) (h2:i≠13):ptN (L.setIfInBounds i true) (Cj σ i v):=fun a b=>by
 rw[qZ h1] at a;rw[qZ h2] at b;unfold Cj;rw[if_neg (Ne.symm h1),if_neg (Ne.symm h2)];exact h a b
def ptA (lv tb zv xv mv:Value) (G kx n:Nat) (σ:Nat->Value):Act :=
 { tmps:=#[lv,tb,zv,xv,.pointer (some ⟨G,0,none⟩),undef,undef,undef,.int .i64 0,mv,σ 12,σ 13,undef,undef,undef,undef,xv,.int .i64 (kx:Int),.pointer (some ⟨G,2,none⟩),.int .i64 (n:Int),mv,
   σ 0,σ 1,σ 2,σ 3,σ 4,σ 5,σ 6,σ 7,σ 8,σ 9,σ 10,σ 11,
   undef,undef,undef,undef,undef,undef,undef,undef,undef,undef,undef,undef,undef,undef,undef,undef,undef,undef,undef,undef,undef,undef,undef,undef,undef,undef,undef,undef,undef,undef,undef,undef,undef,undef,undef,undef,undef,undef,undef,undef,undef,undef,undef,undef,undef,undef,undef,undef,undef,undef],defers:=[] }
def ptE (x1 y1:Value) (N1:Nat) (ab:Option Addr) (r1 r2 L1 L2:Nat) (T1 T2:List Int) (b15:Bool) (w:World) (σ:Nat->Value):Prop:=∃ gx gy a1 c1 a2 c2,σ 12=.pointer (some ⟨gx,0,none⟩)/\σ 13=.pointer (some ⟨gy,0,none⟩)/\gx≠gy/\N1<=gx/\N1<=gy /\
 w.heap[gx]?=some (.cells (sdA x1 r1 L1 a1 c1) 186 (0,0))/\SdW N1 ab w T1 a1 c1/\SdW N1 ab w T2 a2 c2 /\
 (b15=false->w.heap[gy]?=some (.cells #[.slice none 0 0,.int .i64 0,.slice none 0 0] 186 (0,0))/\σ 11=.agg (sdA y1 r2 L2 a2 c2)) /\
 (b15=true->w.heap[gy]?=some (.cells (sdA y1 r2 L2 a2 c2) 186 (0,0)))
structure PtI (lv tb zv xv mv x1 y1:Value) (G kx n:Nat) (ab:Option Addr) (r1 r2 L1 L2:Nat) (T1 T2:List Int) (W1:World) (L:Array Bool) (a:Act) (w:World):Prop where
 below:Below W1.heap.size W1 w
 told:∃ σ,a=ptA lv tb zv xv mv G kx n σ/\(L.getD 14 false=false->Told 14 (ptF lv tb xv mv x1 y1 W1.heap.size ab r1 r2 L1 L2 T1 T2) L w σ/\ptN L σ)/\(L.getD 14 false=true->ptE x1 y1 W1.heap.size ab r1 r2 L1 L2 T1 T2 (L.getD 15 false) w σ)
theorem PtI.next{zv:Value}{G kx:Nat}{W1:World}{L:Array Bool}{σ:Nat->Value}{a':Act} (hb:Below W1.heap.size W1 w') (hn:L.getD 14 false=false) (hi:i≠14) (ht:Told 14 (ptF lv tb xv mv x1 y1 W1.heap.size ab r1 r2 L1 L2 T1 T2) L w σ) (hN:ptN (L.setIfInBounds i true) (Cj σ i v)) (hbw:Below w.heap.size w w') (hv:ptF lv tb xv mv x1 y1 W1.heap.size ab r1 r2 L1 L2 T1 T2 w' i v) (ha:a'=ptA lv tb zv xv mv G kx n (Cj σ i v)):PtI lv tb zv xv mv x1 y1 G kx n ab r1 r2 L1 L2 T1 T2 W1 (L.setIfInBounds i true) a' w' :=
 ⟨hb,Cj σ i v,ha,fun _=>⟨ht.one (aC4 hbw) hv,hN⟩,fun h=>by rw[qZ hi,hn] at h;cases h⟩
theorem aC5 (p b n cg cb cz cx:Nat) (ag ab az ax:Option Addr) (gs:List GatZ) (t z xs:List Int) (w:World) (hIT:InT p b w) (hn:n<=6) (ht:t.length=2 ^ n) (hgl:gs.length<=64) (hg:LstG w.heap.size w ag cg gs) (ho:∀ k,k<gs.length->0<=(gat gs k).a/\0<=(gat gs k).b) (hz:z.length<=60) (hx:xs.length<=2*n) (ft:Fits t) (fz:Fits z) (fx:Fits xs) (lt:Lst w.heap.size w ab cb t) (rz:RowB w.heap.size w az z) (lx:Lst w.heap.size w ax cx xs) :
  Calls Tryz.prog 108 #[.agg #[.pointer (some ⟨b,0,none⟩),.slice ag gs.length cg,.int .i64 (n:Int)],.slice ab t.length cb,.slice az z.length cz,.slice ax xs.length cx] w fun e w'=>e=.returned (.int .i64 (ptz p gs t n z xs))/\Below w.heap.size w w':=by
 have hmx:Tryz.prog.follows .mixedOrders=true:=by kernel_rfl
 obtain⟨W0,hW0⟩:=exE (w.alloc (.cells #[.pointer (some ⟨b,0,none⟩),.slice ag gs.length cg,.int .i64 (n:Int)] 84));obtain⟨hb0,hs0,hz0⟩:=qV hW0;obtain⟨G,hG⟩:=exE (w.heap.size);rw[<- hG] at hs0;have HGE:=hid hG;obtain⟨W1,hW1⟩:=exE (W0.drew);have hb1:Below w.heap.size w W1:=by rw[hW1];exact hb0.drew
 have hs1:W1.heap[G]?=some (.cells #[.pointer (some ⟨b,0,none⟩),.slice ag gs.length cg,.int .i64 (n:Int)] 84 (0,0)):=by rw[hW1];exact hs0
 have hz1:W1.heap.size=w.heap.size+1:=by rw[hW1];exact hz0
 obtain⟨m,hm⟩:=exE (min xs.length n);have HMI:Hid (min (xs.length:Int) (n:Int)=(m:Int)):=by unfold Hid;omega
 have c2:=clA 2 hs0 rfl;have HXA:=hid (fun i=>aFy (p:=p) (gs:=gs) (t:=t) (z:=z) (i:=i) hm);obtain⟨X,hX⟩:=exE (xs.take m);obtain⟨Y,hY⟩:=exE (xs.drop m);have hXl:X.length=m:=by rw[hX,List.length_take];omega
 obtain⟨ky,hky⟩:=exE (xs.length-m);have hYl:Y.length=ky:=by rw[hY,List.length_drop,hky]
 have lX:RowB w.heap.size w ax X:=by rw[hX];exact Lw lx.row
 have lY:RowB w.heap.size w (adS ax cx m) Y:=by rw[hY];exact Ql lx.row lx.room
 have fX:Fits X:=by rw[hX];exact Cs m fx
 have fY:Fits Y:=by rw[hY];exact Ct m fx
 obtain⟨T1,hT1⟩:∃ T,T=fxs p t (zat X) X.length:=⟨_,rfl⟩
 obtain⟨T2,hT2⟩:∃ T,T=fxs p t (zat Y) Y.length:=⟨_,rfl⟩
 obtain⟨r1,hr1⟩:∃ r,r=n-X.length:=⟨_,rfl⟩
 obtain⟨r2,hr2⟩:∃ r,r=n-Y.length:=⟨_,rfl⟩
 have hl1:T1.length=2 ^ r1:=by rw[hT1,hr1];exact El _ ht _ (by omega)
 have hl2:T2.length=2 ^ r2:=by rw[hT2,hr2];exact El _ ht _ (by omega)
 have hf1:Fits T1:=by rw[hT1];exact Gn hIT.h3 hIT.hm _ ft _
 have hf2:Fits T2:=by rw[hT2];exact Gn hIT.h3 hIT.hm _ ft _
 have HSX:Hid (∀ W,Below W1.heap.size W1 W->Calls Tryz.prog 139 #[.agg #[.pointer (some ⟨b,0,none⟩),.slice ag gs.length cg,.int .i64 (n:Int)],.slice ab t.length cb,.slice ax m cx] W fun e w'=>∃ a' c',e=.returned (.agg #[.slice ax m cx,.int .i64 (r1:Int),.slice a' T1.length c'])/\Lst w'.heap.size w' a' c' T1/\(a'=ab∨∃ g,a'=some ⟨g,0,none⟩/\W.heap.size<=g)/\Below W.heap.size W w'):=fun W hW=>by
  have hw:=hb1.trans (hW.mono hb1.size);have h:=Lu p b n cb cx (.slice ag gs.length cg) ab ax t X W (hIT.below hw) hn ht (by omega) ft fX ((lt.below hw).mono hw.size) ((lX.below hw).mono hw.size)
  rwa [<- hT1,<- hr1,hXl] at h
 have HSY:Hid (∀ W,Below W1.heap.size W1 W->Calls Tryz.prog 139 #[.agg #[.pointer (some ⟨b,0,none⟩),.slice ag gs.length cg,.int .i64 (n:Int)],.slice ab t.length cb,.slice (adS ax cx m) ky (cx-m)] W fun e w'=>∃ a' c',e=.returned (.agg #[.slice (adS ax cx m) ky (cx-m),.int .i64 (r2:Int),.slice a' T2.length c'])/\Lst w'.heap.size w' a' c' T2/\(a'=ab∨∃ g,a'=some ⟨g,0,none⟩/\W.heap.size<=g)/\Below W.heap.size W w'):=fun W hW=>by
  have hw:=hb1.trans (hW.mono hb1.size);have h:=Lu p b n cb (cx-m) (.slice ag gs.length cg) ab (adS ax cx m) t Y W (hIT.below hw) hn ht (by omega) ft fY ((lt.below hw).mono hw.size) ((lY.below hw).mono hw.size)
  rwa [<- hT2,<- hr2,hYl] at h
 have HAB:Hid (∀ x,ab=some x->x.block<W1.heap.size):=fun x hx=>by
  obtain⟨b3,o3,e5,e6,_⟩:=lt.row 0 (by rw[ht];exact Nat.two_pow_pos n);rw[hx] at e5;injection e5 with e5
  rw[e5];show b3<_;omega
 have HT1:Hid (0<T1.length):=by unfold Hid;rw[hl1];exact Nat.two_pow_pos _
 have HT2:Hid (0<T2.length):=by unfold Hid;rw[hl2];exact Nat.two_pow_pos _
 have HC1:Hid (∀ W,Below W1.heap.size W1 W->W.cell? ⟨G,0,none⟩=some (.pointer (some ⟨b,0,none⟩))/\W.cell? ⟨G,1,none⟩=some (.slice ag gs.length cg)/\W.cell? ⟨G,2,none⟩=some (.int .i64 (n:Int))):=fun W hW=>by have e1:=(hW.block G (by omega)).trans hs1;exact⟨by simp[World.cell?,e1],by simp[World.cell?,e1],by simp[World.cell?,e1]⟩
 have hroom:=lx.room;have hnil:=lx.nil;have hmk:m<=xs.length:=by omega
 have HFN:Hid (∀ k,ptt p gs t n z xs k=ptd p gs t n z X Y k):=fun k=>by rw[hX,hY];exact HXA.out k
 have hpt:ptz p gs t n z xs=Dom.sm (ptd p gs t n z X Y) gs.length % (p:Int):=by unfold ptz;rw[Dom.sm_same (fun k _=>HFN.out k)]
 rw[hpt];obtain⟨F,hF⟩:∃ F:Nat->Int,F=fun k=>Dom.sm (ptd p gs t n z X Y) k % (p:Int):=⟨_,rfl⟩
 have HFB:Hid (∀ k,0<=F k/\F k<p):=fun k=>by rw[hF];exact qQ _ p hIT.h3
 have HF0:Hid (F 0=0):=by unfold Hid;rw[hF];rfl
 have HFA:Hid (∀ k,(F k+Sum.prz (zat [Sum.wgt (zat z) z.length k % (p:Int),Sum.wgt (zat X) X.length ((gat gs k).a.toNat / 2 ^ r1) % (p:Int),Sum.wgt (zat Y) Y.length ((gat gs k).b.toNat / 2 ^ r2) % (p:Int),jnz p (gat gs k).kind (zat T1 ((gat gs k).a.toNat % 2 ^ r1)) (zat T2 ((gat gs k).b.toNat % 2 ^ r2))]) 4 % (p:Int)) % (p:Int)=F (k+1)):=fun k=>by rw[hF,hT1,hT2,hr1,hr2];exact aC3
 obtain⟨ng,hng⟩:∃ n,n=gs.length:=⟨_,rfl⟩
 have HNG:=hid hng;rw[show Dom.sm (ptd p gs t n z X Y) gs.length % (p:Int)=F ng from by rw[hF,hng]];have h3:=hIT.h3;have hm31:=hIT.hm;have hp:=hIT.cell;have HBW:Hid (∀ W,Below W1.heap.size W1 W->Below w.heap.size w W):=fun W hW=>hb1.trans (hW.mono hb1.size);have HPC:Hid (∀ W,Below W1.heap.size W1 W->W.cell? ⟨b,0,none⟩=some (.int .i64 p)):=fun W hW=>((HBW.out W hW).cell (p:=⟨b,0,none⟩) (qK hp)).trans hp;have HGS:=hid hg;have HOK:=hid ho
 have HWZ0:Hid (∀ (W:World) (i:Nat),Below W1.heap.size W1 W->Calls Tryz.prog 142 #[.agg #[.pointer (some ⟨b,0,none⟩),.slice ag gs.length cg,.int .i64 (n:Int)],.int .i64 (i:Int),.slice az z.length cz] W fun e w'=>e=.returned (.int .i64 (Sum.wgt (zat z) z.length i % (p:Int)))/\Below W.heap.size W w'):=fun W i hW=>by have hbw:=HBW.out W hW;exact Bc p b cz i _ _ az z W h3 hm31 (HPC.out W hW) hz fz ((rz.below hbw).mono hbw.size)
 have HWX0:Hid (∀ (W:World) (i:Nat),Below W1.heap.size W1 W->Calls Tryz.prog 142 #[.agg #[.pointer (some ⟨b,0,none⟩),.slice ag gs.length cg,.int .i64 (n:Int)],.int .i64 (i:Int),.slice ax m cx] W fun e w'=>e=.returned (.int .i64 (Sum.wgt (zat X) m i % (p:Int)))/\Below W.heap.size W w'):=fun W i hW=>by
  have hbw:=HBW.out W hW;have h:=Bc p b cx i (.slice ag gs.length cg) (.int .i64 (n:Int)) ax X W h3 hm31 (HPC.out W hW) (by omega) fX ((lX.below hbw).mono hbw.size)
  rwa [hXl] at h
 have HWY0:Hid (∀ (W:World) (i:Nat),Below W1.heap.size W1 W->Calls Tryz.prog 142 #[.agg #[.pointer (some ⟨b,0,none⟩),.slice ag gs.length cg,.int .i64 (n:Int)],.int .i64 (i:Int),.slice (adS ax cx m) ky (cx-m)] W fun e w'=>e=.returned (.int .i64 (Sum.wgt (zat Y) ky i % (p:Int)))/\Below W.heap.size W w'):=fun W i hW=>by
  have hbw:=HBW.out W hW;have h:=Bc p b (cx-m) i (.slice ag gs.length cg) (.int .i64 (n:Int)) (adS ax cx m) Y W h3 hm31 (HPC.out W hW) (by omega) fY ((lY.below hbw).mono hbw.size)
  rwa [hYl] at h
 have HJN0:Hid (∀ (W:World) (k u v:Int),Below W1.heap.size W1 W->-9223372036854775808<=u->u<=9223372036854775807->-9223372036854775808<=v->v<=9223372036854775807->Calls Tryz.prog 106 #[.agg #[.pointer (some ⟨b,0,none⟩),.slice ag gs.length cg,.int .i64 (n:Int)],.int .i64 k,.int .i64 u,.int .i64 v] W fun e w'=>e=.returned (.int .i64 (jnz p k u v))/\Below W.heap.size W w'):=fun W k u v hW a1 a2 a3 a4=>Dw p b _ _ k u v W h3 hm31 (HPC.out W hW) a1 a2 a3 a4
 have HPR0:Hid (∀ (W:World) (u1 u2 u3 u4:Int),Below W1.heap.size W1 W->(0<=u1/\u1<p)->(0<=u2/\u2<p)->(0<=u3/\u3<p)->(0<=u4/\u4<p)->Calls Tryz.prog 141 #[.agg #[.pointer (some ⟨b,0,none⟩),.slice ag gs.length cg,.int .i64 (n:Int)],.slice (some ⟨W.heap.size,0,none⟩) 4 4] (W.alloc (.cells #[.int .i64 u1,.int .i64 u2,.int .i64 u3,.int .i64 u4] 3)) fun e w'=>e=.returned (.int .i64 (Sum.prz (zat [u1,u2,u3,u4]) 4 % (p:Int)))/\Below (W.alloc (.cells #[.int .i64 u1,.int .i64 u2,.int .i64 u3,.int .i64 u4] 3)).heap.size (W.alloc (.cells #[.int .i64 u1,.int .i64 u2,.int .i64 u3,.int .i64 u4] 3)) w'):=fun W u1 u2 u3 u4 hW h1 h2 h4 h5=>by
  have hA:=heap_alloc_new W (.cells #[.int .i64 u1,.int .i64 u2,.int .i64 u3,.int .i64 u4] 3);have hBA:=hW.alloc hW.size (.cells #[.int .i64 u1,.int .i64 u2,.int .i64 u3,.int .i64 u4] 3);refine Gm p b 4 _ _ (some ⟨W.heap.size,0,none⟩) [u1,u2,u3,u4] _ h3 hm31 (HPC.out _ hBA) (by simp) (fun i hi=>?_) (fun i hi=>?_)
  ·match i,hi with
   | 0,_=>simp[zat];omega
   | 1,_=>simp[zat];omega
   | 2,_=>simp[zat];omega
   | 3,_=>simp[zat];omega
  ·refine⟨W.heap.size,0,rfl,by simp,?_⟩;rw[World.cell?];show (match (W.alloc (.cells #[.int .i64 u1,.int .i64 u2,.int .i64 u3,.int .i64 u4] 3)).heap[W.heap.size]? with | some (.cells c _ _)=>c[0+i]? | _=>none)=_;rw[hA]
   match i,hi with
   | 0,_=>rfl
   | 1,_=>rfl
   | 2,_=>rfl
   | 3,_=>rfl
 have HAD0:Hid (∀ (W:World) (u1 u2:Int),Below W1.heap.size W1 W->(0<=u1/\u1<p)->(0<=u2/\u2<p)->Calls Tryz.prog 64 #[.pointer (some ⟨b,0,none⟩),.int .i64 u1,.int .i64 u2] W fun e w'=>e=.returned (.int .i64 ((u1+u2) % (p:Int)))/\w'=W):=fun W u1 u2 hW h1 h2=>yV p b u1 u2 W h3 hm31 (HPC.out W hW) (by omega) (by omega) (by omega) (by omega);have HST0:Hid (∀ (W:World) (fv:Value) (g r c:Nat) (a:Option Addr) (T:List Int),r<=6->T.length=2 ^ r->Lst W.heap.size W a c T->Calls Tryz.prog 140 #[.agg #[fv,.int .i64 (r:Int),.slice a T.length c],.int .i64 (g:Int)] W fun e w'=>e=.returned (.int .i64 (zat T (g % 2 ^ r)))/\Below W.heap.size W w'):=fun W fv g r c a T h1 h2 h4=>Wz fv g r c a T W h1 h2 h4;have hr16:r1<=6:=by omega
 have hr26:r2<=6:=by omega
 have HF1:=hid hf1;have HF2:=hid hf2;have HL1:=hid hl1;have HL2:=hid hl2;have HWG:=hid hW0;have HWD:=hid hW1;have HZ1:=hid hz1;rw[hXl,hYl] at HFA;obtain⟨Uz,hUz⟩:∃ U:Nat->Int,U=fun i=>Sum.wgt (zat z) z.length i % (p:Int):=⟨_,rfl⟩
 obtain⟨Ux,hUx⟩:∃ U:Nat->Int,U=fun i=>Sum.wgt (zat X) m i % (p:Int):=⟨_,rfl⟩
 obtain⟨Uy,hUy⟩:∃ U:Nat->Int,U=fun i=>Sum.wgt (zat Y) ky i % (p:Int):=⟨_,rfl⟩
 have HUB:Hid (∀ i,(0<=Uz i/\Uz i<p)/\(0<=Ux i/\Ux i<p)/\(0<=Uy i/\Uy i<p)):=fun i=>by rw[hUz,hUx,hUy];exact⟨qQ _ p h3,qQ _ p h3,qQ _ p h3⟩
 simp only[show ∀ i,Sum.wgt (zat z) z.length i % (p:Int)=Uz i from fun i=>by rw[hUz],show ∀ i,Sum.wgt (zat X) m i % (p:Int)=Ux i from fun i=>by rw[hUx],show ∀ i,Sum.wgt (zat Y) ky i % (p:Int)=Uy i from fun i=>by rw[hUy]] at HFA HWZ0 HWX0 HWY0;have hs1':=hs1;simp only[<- hng] at HC1 HSX HSY HWZ0 HWX0 HWY0 HJN0 HPR0 HWG hgl ⊢;have hnn:¬ (m:Int) > (cx:Int):=by omega
 generalize xs.length=kx at *;generalize z.length=nz at *;generalize t.length=nb at *;obtain⟨N1',hN1'⟩:∃ N,N=T1.length:=⟨_,rfl⟩
 obtain⟨N2',hN2'⟩:∃ N,N=T2.length:=⟨_,rfl⟩
 have HN1:=hid hN1';have HN2:=hid hN2';rw[<- hN1'] at HSX;rw[<- hN2'] at HSY;clear hIT hg ho hb0 hs0 hng hF hG hz0 hW0 hW1 hz1 fz fx ft rz lx lt lX lY fX fY hUz hUx hUy hz hx hs1 hs1' hX hY hXl hYl hT1 hT2 hr1 hr2 hl1 hl2 hf1 hf2 hN1' hN2' hpt HXA HFN ht hp hm;go_enter Tryz.func108,Tryz.ntmps108;go_wp2_with fail;rw[<- HWG.out,<- HGE.out];clear HWG c2;refine wp_region_any hmx ?_;rw[HMI.out];rw[show ({ heap:=W0.heap,tape:=W0.tape,drawn:=W0.drawn+1,os:=W0.os,output:=W0.output }:World)=W1 from HWD.out.symm];refine Lv (PtI (.agg #[.pointer (some ⟨b,0,none⟩),.slice ag ng cg,.int .i64 (n:Int)]) (.slice ab nb cb) (.slice az nz cz) (.slice ax kx cx) (.int .i64 (m:Int)) (.slice ax m cx) (.slice (adS ax cx m) ky (cx-m)) G kx n ab r1 r2 N1' N2' T1 T2 W1) ?step ?done (by kernel_rfl) _ _ ⟨⟨rfl,rfl,rfl,Nat.le_refl _,fun _ _=>rfl⟩,fun _=>undef,rfl,fun _=>⟨fun k hk hl=>?first,fun h=>?lastN⟩,fun h=>?last⟩
 case first =>
  rcases Nat.lt_or_ge k 16 with g | g
  ·simp[g] at hl
  ·omega
 case last=>simp at h
 case lastN=>simp at h
 case step =>
  intro L a W hcl hI i hi;obtain⟨hB,σ,rfl,ht,hfin⟩:=hI;have hi16:i<16:=Iw hi;have hun:=Cd hi;obtain⟨hg0,hg1,hg2⟩:=HC1.out W hB
  have hsz:i<L.size:=by
   rcases Nat.lt_or_ge i L.size with g | g
   ·exact g
   ·have:=(mem_ready.1 hi).1;simp[Array.getElem?_eq_none g] at this
  by_cases h15:i=15
  ·subst h15;have h14:=qU hcl hi (k:=14) (by kernel_rfl);obtain⟨gx,gy,a1',c1',a2',c2',q1,q2,q3,q4,q5,q6,q7,q8,q9,_⟩:=hfin h14;obtain⟨q9,q10⟩:=q9 hun;refine wpOp_step rfl (fun K' hK'=>?_);rw[if_pos (by rfl)];simp only[ptA,q2,q10];refine wp_store_row 186 _ _ rfl gy (sdA (.slice (adS ax cx m) ky (cx-m)) r2 N2' a2' c2') rfl rfl _ _ q9 (by kernel_rfl) rfl (by simp[sdA,Value.oneCell']) ?_;refine hK' _ _ ⟨below_setRow hB q5 _,σ,(by simp only[ptA,q2,q10];rfl),fun h=>?_,fun _=>⟨gx,gy,a1',c1',a2',c2',q1,q2,q3,q4,q5,(setRow_other W gy gx _ q3).trans q6,q7.setRow HT1.out HAB.out q5 q9 _,q8.setRow HT2.out HAB.out q5 q9 _,fun h=>?_,fun _=>setRow_heap _ _ _ _ _ _ q9⟩⟩
   ·rw[qZ (show 15≠14 by decide),h14] at h;cases h
   ·simp[hsz] at h
  by_cases h14:i=14
  ·subst h14;obtain⟨hT,hN⟩:=ht hun;obtain⟨a1',c1',e5,q7⟩:=hT 5 (by omega) (qU hcl hi (by kernel_rfl));obtain⟨a2',c2',e11,q8⟩:=hT 11 (by omega) (qU hcl hi (by kernel_rfl));have l12:=qU hcl hi (k:=12) (by kernel_rfl);have l13:=qU hcl hi (k:=13) (by kernel_rfl);obtain⟨gx,e12,q4,q6⟩:=hT 12 (by omega) l12;obtain⟨gy,e13,q5,q9⟩:=hT 13 (by omega) l13;have q3:gx≠gy:=fun e=>hN l12 l13 (by rw[e12,e13,e])
   have n15:L.getD 15 false=false:=by
    rcases hx:L.getD 15 false with _ | _
    ·rfl
    ·have:L.getD 14 false=true:=Ba hcl 4 15 (show Ia .any _ 4 15 14=true by kernel_rfl) (fun o ho=>hcl 15 o ho hx);rw[hun] at this;cases this
   refine wpOp_step rfl (fun K' hK'=>?_);rw[if_pos (by rfl)];simp only[ptA,e5,e12];refine wp_store_row 186 _ _ rfl gx (sdA (.slice ax m cx) r1 N1' a1' c1') rfl rfl _ _ q6 (by kernel_rfl) rfl (by simp[sdA,Value.oneCell']) ?_;refine hK' _ _ ⟨below_setRow hB q4 _,σ,(by simp only[ptA,e5,e12];rfl),fun h=>?_,fun _=>⟨gx,gy,a1',c1',a2',c2',e12,e13,q3,q4,q5,setRow_heap _ _ _ _ _ _ q6,q7.setRow HT1.out HAB.out q4 q6 _,q8.setRow HT2.out HAB.out q4 q6 _,fun _=>⟨(setRow_other W gx gy _ (Ne.symm q3)).trans q9,e11⟩,fun h=>?_⟩⟩
   ·simp[hsz] at h
   ·rw[qZ (show 14≠15 by decide),n15] at h;cases h
  ·have hn14:L.getD 14 false=false:=by
    rcases hx:L.getD 14 false with _ | _
    ·rfl
    ·have:L.getD i false=true:=by
      have hdd:Ia .any _ 4 14 i=true->L.getD i false=true:=fun hd=>Ba hcl 4 14 hd (fun o ho=>hcl 14 o ho hx);have h14':i=0∨i=1∨i=2∨i=3∨i=4∨i=5∨i=6∨i=7∨i=8∨i=9∨i=10∨i=11∨i=12∨i=13:=by omega
      rcases h14' with rfl | rfl | rfl | rfl | rfl | rfl | rfl | rfl | rfl | rfl | rfl | rfl | rfl | rfl <;> exact hdd (by kernel_rfl)
     rw[hun] at this;cases this
   obtain⟨hT,hN⟩:=ht hn14;clear ht hfin;have h14':i=0∨i=1∨i=2∨i=3∨i=4∨i=5∨i=6∨i=7∨i=8∨i=9∨i=10∨i=11∨i=12∨i=13:=by omega
   rcases h14' with rfl | rfl | rfl | rfl | rfl | rfl | rfl | rfl | rfl | rfl | rfl | rfl | rfl | rfl
   ·-- 0
    refine wpOp_step rfl (fun K' hK'=>?_);rw[if_pos (by rfl)];simp only[ptA];go_simp;exact hK' _ _ (PtI.next (i:=0) (v:=(.agg #[.pointer (some ⟨b,0,none⟩),.slice ag ng cg,.int .i64 (n:Int)])) hB hn14 (by decide) hT (hN.keep (by decide) (by decide)) (Below.refl _ _) rfl rfl)
   ·-- 1
    refine wpOp_step rfl (fun K' hK'=>?_);rw[if_pos (by rfl)];simp only[ptA];go_simp;exact hK' _ _ (PtI.next (i:=1) (v:=.slice ab nb cb) hB hn14 (by decide) hT (hN.keep (by decide) (by decide)) (Below.refl _ _) rfl rfl)
   ·-- 2
    refine wpOp_step rfl (fun K' hK'=>?_);rw[if_pos (by rfl)];simp only[ptA];go_simp;exact hK' _ _ (PtI.next (i:=2) (v:=.slice ax kx cx) hB hn14 (by decide) hT (hN.keep (by decide) (by decide)) (Below.refl _ _) rfl rfl)
   ·-- 3
    refine wpOp_step rfl (fun K' hK'=>?_);rw[if_pos (by rfl)];simp only[ptA];go_simp;exact hK' _ _ (PtI.next (i:=3) (v:=.int .i64 (m:Int)) hB hn14 (by decide) hT (hN.keep (by decide) (by decide)) (Below.refl _ _) rfl rfl)
   ·-- 4
    have e2:=hT 2 (by omega) (qU hcl hi (by kernel_rfl));have e3:=hT 3 (by omega) (qU hcl hi (by kernel_rfl));simp only[ptF] at e2 e3;refine wpOp_step rfl (fun K' hK'=>?_);rw[if_pos (by rfl)];simp only[ptA,e2,e3];go_simp;exact hK' _ _ (PtI.next (i:=4) (v:=.slice ax m cx) hB hn14 (by decide) hT (hN.keep (by decide) (by decide)) (Below.refl _ _) rfl (by simp[ptA,Cj,e2,e3]))
   ·-- 5
    have e0:=hT 0 (by omega) (qU hcl hi (by kernel_rfl));have e1:=hT 1 (by omega) (qU hcl hi (by kernel_rfl));have e4:=hT 4 (by omega) (qU hcl hi (by kernel_rfl));simp only[ptF] at e0 e1 e4;refine wpOp_step rfl (fun K' hK'=>?_);rw[if_pos (by rfl)];simp only[ptA,e0,e1,e4];go_simp;refine (HSX.out W hB).mono ?_;rintro e w' ⟨a',c',rfl,hl,ho,hb'⟩;exact hK' _ _ (PtI.next (i:=5) (v:=.agg (sdA (.slice ax m cx) r1 N1' a' c')) (hB.trans (hb'.mono hB.size)) hn14 (by decide) hT (hN.keep (by decide) (by decide)) hb' ⟨a',c',rfl,hl,ho.imp id (fun ⟨g,h,hg⟩=>⟨g,h,Nat.le_trans hB.size hg⟩)⟩ (by simp[ptA,Cj,e0,e1,e4,sdA]))
   ·-- 6
    refine wpOp_step rfl (fun K' hK'=>?_);rw[if_pos (by rfl)];simp only[ptA];go_simp;exact hK' _ _ (PtI.next (i:=6) (v:=(.agg #[.pointer (some ⟨b,0,none⟩),.slice ag ng cg,.int .i64 (n:Int)])) hB hn14 (by decide) hT (hN.keep (by decide) (by decide)) (Below.refl _ _) rfl rfl)
   ·-- 7
    refine wpOp_step rfl (fun K' hK'=>?_);rw[if_pos (by rfl)];simp only[ptA];go_simp;exact hK' _ _ (PtI.next (i:=7) (v:=.slice ab nb cb) hB hn14 (by decide) hT (hN.keep (by decide) (by decide)) (Below.refl _ _) rfl rfl)
   ·-- 8
    refine wpOp_step rfl (fun K' hK'=>?_);rw[if_pos (by rfl)];simp only[ptA];go_simp;exact hK' _ _ (PtI.next (i:=8) (v:=.slice ax kx cx) hB hn14 (by decide) hT (hN.keep (by decide) (by decide)) (Below.refl _ _) rfl rfl)
   ·-- 9
    refine wpOp_step rfl (fun K' hK'=>?_);rw[if_pos (by rfl)];simp only[ptA];go_simp;exact hK' _ _ (PtI.next (i:=9) (v:=.int .i64 (m:Int)) hB hn14 (by decide) hT (hN.keep (by decide) (by decide)) (Below.refl _ _) rfl rfl)
   ·-- 10
    have e8:=hT 8 (by omega) (qU hcl hi (by kernel_rfl));have e9:=hT 9 (by omega) (qU hcl hi (by kernel_rfl));simp only[ptF] at e8 e9;refine wpOp_step rfl (fun K' hK'=>?_);rw[if_pos (by rfl)];simp only[ptA,e8,e9];go_simp;exact hK' _ _ (PtI.next (i:=10) (v:=.slice (adS ax cx m) ky (cx-m)) hB hn14 (by decide) hT (hN.keep (by decide) (by decide)) (Below.refl _ _) rfl (by simp[ptA,Cj,e8,e9,adS,hky]))
   ·-- 11
    have e6:=hT 6 (by omega) (qU hcl hi (by kernel_rfl));have e7:=hT 7 (by omega) (qU hcl hi (by kernel_rfl));have e10:=hT 10 (by omega) (qU hcl hi (by kernel_rfl));simp only[ptF] at e6 e7 e10;clear hky hroom hnil hmk hnn;refine wpOp_step rfl (fun K' hK'=>?_);rw[if_pos (by rfl)];simp only[ptA,e6,e7,e10];go_simp;refine (HSY.out W hB).mono ?_;rintro e w' ⟨a',c',rfl,hl,ho,hb'⟩;exact hK' _ _ (PtI.next (i:=11) (v:=.agg (sdA (.slice (adS ax cx m) ky (cx-m)) r2 N2' a' c')) (hB.trans (hb'.mono hB.size)) hn14 (by decide) hT (hN.keep (by decide) (by decide)) hb' ⟨a',c',rfl,hl,ho.imp id (fun ⟨g,h,hg⟩=>⟨g,h,Nat.le_trans hB.size hg⟩)⟩ (by simp[ptA,Cj,e6,e7,e10,sdA]))
   ·-- 12
    have hNE:ptN (L.setIfInBounds 12 true) (Cj σ 12 (.pointer (some ⟨W.heap.size,0,none⟩))):=fun a c=>by rw[qZ (show 12≠13 by decide)] at c;obtain⟨g,h1,_,h3⟩:=hT 13 (by omega) c;have:=Bq h3;simp only[Cj,if_true,if_neg (show ¬ (13:Nat)=12 by decide),h1];intro h;injection h with h;injection h with h;injection h with h;omega
    refine wpOp_step rfl (fun K' hK'=>?_);rw[if_pos (by rfl)];simp only[ptA];go_simp;exact hK' _ _ (PtI.next (i:=12) (v:=.pointer (some ⟨W.heap.size,0,none⟩)) (hB.alloc hB.size _) hn14 (by decide) hT hNE ((Below.refl W.heap.size W).alloc (Nat.le_refl _) _) ⟨W.heap.size,rfl,hB.size,heap_alloc_new W _⟩ rfl)
   ·-- 13
    have hNE:ptN (L.setIfInBounds 13 true) (Cj σ 13 (.pointer (some ⟨W.heap.size,0,none⟩))):=fun a c=>by rw[qZ (show 13≠12 by decide)] at a;obtain⟨g,h1,_,h3⟩:=hT 12 (by omega) a;have:=Bq h3;simp only[Cj,if_true,if_neg (show ¬ (12:Nat)=13 by decide),h1];intro h;injection h with h;injection h with h;injection h with h;omega
    refine wpOp_step rfl (fun K' hK'=>?_);rw[if_pos (by rfl)];simp only[ptA];go_simp;exact hK' _ _ (PtI.next (i:=13) (v:=.pointer (some ⟨W.heap.size,0,none⟩)) (hB.alloc hB.size _) hn14 (by decide) hT hNE ((Below.refl W.heap.size W).alloc (Nat.le_refl _) _) ⟨W.heap.size,rfl,hB.size,heap_alloc_new W _⟩ rfl)
 case done =>
  intro L a W5 hall hI;obtain⟨hB5,σ,rfl,_,hfin⟩:=hI;obtain⟨gx,gy,a1',c1',a2',c2',q1,q2,q3,q4,q5,q6,q7,q8,_,q9⟩:=hfin (hall 14 (by decide));have q9:=q9 (hall 15 (by decide));simp only[ptA,q1,q2];generalize σ 0=v0;generalize σ 1=v1;generalize σ 2=v2;generalize σ 3=v3;generalize σ 4=v4;generalize σ 5=v5;generalize σ 6=v6;generalize σ 7=v7;generalize σ 8=v8;generalize σ 9=v9;generalize σ 10=v10;generalize σ 11=v11;obtain⟨hg0,hg1,hg2⟩:=HC1.out W5 hB5;have HW5:Hid (∀ W,Below W5.heap.size W5 W->Below W1.heap.size W1 W):=fun W hW=>hB5.trans (hW.mono hB5.size)
  have HC5:Hid (∀ W,Below W5.heap.size W5 W->(W.cell? ⟨G,0,none⟩=some (.pointer (some ⟨b,0,none⟩))/\W.cell? ⟨G,1,none⟩=some (.slice ag ng cg)/\W.cell? ⟨G,2,none⟩=some (.int .i64 (n:Int)))/\(W.cell? ⟨gx,0,none⟩=some (.slice ax m cx)/\W.cell? ⟨gx,1,none⟩=some (.int .i64 (r1:Int))/\W.cell? ⟨gx,2,none⟩=some (.slice a1' N1' c1'))/\(W.cell? ⟨gy,0,none⟩=some (.slice (adS ax cx m) ky (cx-m))/\W.cell? ⟨gy,1,none⟩=some (.int .i64 (r2:Int))/\W.cell? ⟨gy,2,none⟩=some (.slice a2' N2' c2'))):=fun W hW=>by have e1:=(hW.block gx (Bq q6)).trans q6;have e2:=(hW.block gy (Bq q9)).trans q9;exact⟨HC1.out W (HW5.out W hW),⟨by simp[World.cell?,e1,sdA],by simp[World.cell?,e1,sdA],by simp[World.cell?,e1,sdA]⟩,by simp[World.cell?,e2,sdA],by simp[World.cell?,e2,sdA],by simp[World.cell?,e2,sdA]⟩
  have HTX0:Hid (∀ (W:World) (g:Nat),Below W5.heap.size W5 W->Calls Tryz.prog 140 #[.agg #[.slice ax m cx,.int .i64 (r1:Int),.slice a1' N1' c1'],.int .i64 (g:Int)] W fun e w'=>e=.returned (.int .i64 (zat T1 (g % 2 ^ r1)))/\Below W.heap.size W w'):=fun W g hW=>by rw[HN1.out];exact HST0.out W _ g r1 c1' a1' T1 hr16 HL1.out (q7.below hW).1
  have HTY0:Hid (∀ (W:World) (g:Nat),Below W5.heap.size W5 W->Calls Tryz.prog 140 #[.agg #[.slice (adS ax cx m) ky (cx-m),.int .i64 (r2:Int),.slice a2' N2' c2'],.int .i64 (g:Int)] W fun e w'=>e=.returned (.int .i64 (zat T2 (g % 2 ^ r2)))/\Below W.heap.size W w'):=fun W g hW=>by rw[HN2.out];exact HST0.out W _ g r2 c2' a2' T2 hr26 HL2.out (q8.below hW).1
  have HB5:=hid hB5;clear hky hroom hnil hmk hnn hfin hall hB5 q1 q2 q3 q4 q5 q6 q7 q8 q9 HC1 HSX HSY HAB HT1 HT2;go_wp2_with fail;clear hg0 hg1 hg2;go_loopw [12,13,14,15,36] (fun sv _ _ _ iv wr=>∃ k:Nat,k<=ng/\iv=.int .i64 (k:Int)/\(∃ s:Int,sv=.int .i64 s/\Hid (s=F k))/\Hid (Below W5.heap.size W5 wr)) (fun _ _ _ _ iv _=>ng-(intOf iv).toNat)
  case atStart=>exact⟨0,by omega,rfl,⟨0,rfl,HF0.out.symm⟩,Below.refl _ _⟩
  case round =>
   obtain⟨k,hk,rfl,⟨s0,rfl,hs⟩,hI⟩:=hrel;by_cases hlt:k<ng
   ·have hlt2:(k:Int)<(ng:Int):=by omega
    have hks:IntKind.i64.wrap ((k:Int)+1)=(k:Int)+1:=by rw[IntKind.wrap_i64];omega
    have hbw:Below w.heap.size w wr:=HBW.out wr (HW5.out wr hI.out);obtain⟨b1,o1,rfl,hb1',g0,g1,g2⟩:=(HGS.out.below hbw).row k (by rw[<- HNG.out];exact hlt);obtain⟨ha0,hb0'⟩:=HOK.out k (by rw[<- HNG.out];exact hlt);have HFE:=hid (HFA.out k);generalize gat gs k=g at *;obtain⟨gk,ga0,gb0⟩:=g;simp only at g0 g1 g2 ha0 hb0' HFE;obtain⟨ga,rfl⟩:∃ ga:Nat,ga0=(ga:Int):=⟨ga0.toNat,by omega⟩
    obtain⟨gb,rfl⟩:∃ gb:Nat,gb0=(gb:Int):=⟨gb0.toNat,by omega⟩
    rw[Int.toNat_natCast,Int.toNat_natCast] at HFE;obtain⟨W2,hW2⟩:=exE (wr.alloc (.cells #[.int .i64 gk,.int .i64 (ga:Int),.int .i64 (gb:Int)] 61));obtain⟨hb2,hs2,hz2⟩:=qV hW2;obtain⟨B,hB⟩:=exE (wr.heap.size);have HBE:=hid hB;rw[<- hB] at hs2;have HB2:Hid (Below W5.heap.size W5 W2):=hI.out.trans (hb2.mono hI.out.size);have HBX5:Hid (∀ W,Below W2.heap.size W2 W->Below W5.heap.size W5 W):=fun W hW=>HB2.out.trans (hW.mono HB2.out.size);have HBX:Hid (∀ W,Below W2.heap.size W2 W->Below W1.heap.size W1 W):=fun W hW=>HW5.out W (HBX5.out W hW);have HBD:Hid (Below W2.heap.size W2 W2.drew):=(Below.refl _ _).drew
    have HSB:Hid (∀ W,Below W2.heap.size W2 W->(W.cell? ⟨G,0,none⟩=some (.pointer (some ⟨b,0,none⟩))/\W.cell? ⟨G,1,none⟩=some (.slice (some ⟨b1,o1,none⟩) ng cg)/\W.cell? ⟨G,2,none⟩=some (.int .i64 (n:Int)))/\(W.cell? ⟨gx,0,none⟩=some (.slice ax m cx)/\W.cell? ⟨gx,1,none⟩=some (.int .i64 (r1:Int))/\W.cell? ⟨gx,2,none⟩=some (.slice a1' N1' c1'))/\(W.cell? ⟨gy,0,none⟩=some (.slice (adS ax cx m) ky (cx-m))/\W.cell? ⟨gy,1,none⟩=some (.int .i64 (r2:Int))/\W.cell? ⟨gy,2,none⟩=some (.slice a2' N2' c2'))/\(W.cell? ⟨B,0,none⟩=some (.int .i64 gk)/\W.cell? ⟨B,1,none⟩=some (.int .i64 (ga:Int))/\W.cell? ⟨B,2,none⟩=some (.int .i64 (gb:Int)))):=fun W hW=>by have e1:=(hW.block B (by omega)).trans hs2;obtain⟨z1,z2,z3⟩:=HC5.out W (HBX5.out W hW);exact⟨z1,z2,z3,by simp[World.cell?,e1],by simp[World.cell?,e1],by simp[World.cell?,e1]⟩
    obtain⟨u1,hu1⟩:∃ u,u=Uz k:=⟨_,rfl⟩
    obtain⟨u2,hu2⟩:∃ u,u=Ux (ga / 2 ^ r1):=⟨_,rfl⟩
    obtain⟨u3,hu3⟩:∃ u,u=Uy (gb / 2 ^ r2):=⟨_,rfl⟩
    have q1:=(HUB.out k).1;have q2:=(HUB.out (ga / 2 ^ r1)).2.1;have q3:=(HUB.out (gb / 2 ^ r2)).2.2;have HWZ:=hid (fun W h=>HWZ0.out W k (HBX.out W h));have HWX:=hid (fun W h=>HWX0.out W (ga / 2 ^ r1) (HBX.out W h));have HWY:=hid (fun W h=>HWY0.out W (gb / 2 ^ r2) (HBX.out W h));have HTX:=hid (fun W h=>HTX0.out W ga (HBX5.out W h));have HTY:=hid (fun W h=>HTY0.out W gb (HBX5.out W h));obtain⟨f1,f2⟩:=HF1.out.all (ga % 2 ^ r1);obtain⟨f3,f4⟩:=HF2.out.all (gb % 2 ^ r2);generalize zat T1 (ga % 2 ^ r1)=v1 at *;generalize zat T2 (gb % 2 ^ r2)=v2 at *;have HJN:=hid (fun W h=>HJN0.out W gk v1 v2 (HBX.out W h) f1 f2 f3 f4);have q4:=Ez p gk v1 v2 h3;generalize jnz p gk v1 v2=u4 at *;rw[<- hu1,<- hu2,<- hu3] at HFE;rw[<- hu1] at HWZ q1;rw[<- hu2] at HWX q2;rw[<- hu3] at HWY q3;have HPR:=hid (fun W h=>HPR0.out W u1 u2 u3 u4 (HBX.out W h) q1 q2 q3 q4);obtain⟨t1,t2⟩:=qQ (Sum.prz (zat [u1,u2,u3,u4]) 4) p h3;generalize Sum.prz (zat [u1,u2,u3,u4]) 4 % (p:Int)=T at *;have hsb:=HFB.out k;rw[<- hs.out] at hsb HFE;have HAD:=hid (fun W h=>HAD0.out W s0 T (HBX.out W h) hsb ⟨t1,t2⟩);generalize (s0+T) % (p:Int)=E at *;clear hI hb2 hs2 hz2 hbw hB hs hsb t1 t2 q1 q2 q3 q4 hu1 hu2 hu3 f1 f2 f3 f4;go_wp2_with fail;rw[<- hW2,<- HBE.out];clear hW2 g0 g1 g2;refine wp_region_held_drew (S:=fun W=>(W.cell? ⟨G,0,none⟩=some (.pointer (some ⟨b,0,none⟩))/\W.cell? ⟨G,1,none⟩=some (.slice (some ⟨b1,o1,none⟩) ng cg)/\W.cell? ⟨G,2,none⟩=some (.int .i64 (n:Int)))/\(W.cell? ⟨gx,0,none⟩=some (.slice ax m cx)/\W.cell? ⟨gx,1,none⟩=some (.int .i64 (r1:Int))/\W.cell? ⟨gx,2,none⟩=some (.slice a1' N1' c1'))/\(W.cell? ⟨gy,0,none⟩=some (.slice (adS ax cx m) ky (cx-m))/\W.cell? ⟨gy,1,none⟩=some (.int .i64 (r2:Int))/\W.cell? ⟨gy,2,none⟩=some (.slice a2' N2' c2'))/\(W.cell? ⟨B,0,none⟩=some (.int .i64 gk)/\W.cell? ⟨B,1,none⟩=some (.int .i64 (ga:Int))/\W.cell? ⟨B,2,none⟩=some (.int .i64 (gb:Int)))) (by kernel_rfl) (HSB.out _ HBD.out) (fun hHeld=>?_);refine Aa 0 (.agg #[.pointer (some ⟨b,0,none⟩),.slice (some ⟨b1,o1,none⟩) ng cg,.int .i64 (n:Int)]) ?_;simp only[Ac];refine Aa 1 (.pointer (some ⟨B,0,none⟩)) ?_;simp only[Ac];refine Aa 2 (.int .i64 gk) ?_;simp only[Ac];refine Aa 3 (.agg #[.slice ax m cx,.int .i64 (r1:Int),.slice a1' N1' c1']) ?_;simp only[Ac];refine Aa 4 (.pointer (some ⟨B,1,none⟩)) ?_;simp only[Ac];refine Aa 5 (.int .i64 (ga:Int)) ?_;simp only[Ac];refine Aa 7 (.agg #[.slice (adS ax cx m) ky (cx-m),.int .i64 (r2:Int),.slice a2' N2' c2']) ?_;simp only[Ac];refine Aa 8 (.pointer (some ⟨B,2,none⟩)) ?_;simp only[Ac];refine Aa 9 (.int .i64 (gb:Int)) ?_;simp only[Ac];refine Ab 6 fun K' hK'=>?_;go_simp;refine (HTX.out _ HBD.out).mono ?_;rintro e w3 ⟨rfl,hb3⟩;have hB3:=HBD.out.trans hb3;have hS3:=HSB.out w3 hB3;clear hb3;refine hK'.out _ _ (hS3) (fun hHeld=>?_);clear hK' K';refine Ab 10 fun K' hK'=>?_;go_simp;refine (HTY.out _ hB3).mono ?_;rintro e w4 ⟨rfl,hb4⟩;have hB4:=hB3.trans (hb4.mono hB3.size);have hS4:=HSB.out w4 hB4;clear hb4 hS3 hB3;refine hK'.out _ _ (hS4) (fun hHeld=>?_);clear hK' K';refine Ab 11 fun K' hK'=>?_;go_simp;refine (HJN.out _ hB4).mono ?_;rintro e w5 ⟨rfl,hb5⟩;have hB5:=hB4.trans (hb5.mono hB4.size);have hS5:=HSB.out w5 hB5;clear hb5 hS4 hB4;refine hK'.out _ _ (hS5) (fun hHeld=>?_);clear hK' K';refine Ab 12 fun K' hK'=>?_;go_simp;refine hK'.out _ _ (hS5) (fun hHeld=>?_);clear hK' K';refine wpAnyH_done (by kernel_rfl) ?_ _;go_wp2_with fail;have HBD2:Hid (Below W2.heap.size W2 w5.drew):=hB5.drew;clear hS5 hB5;refine wp_region_held_drew (S:=fun W=>(W.cell? ⟨G,0,none⟩=some (.pointer (some ⟨b,0,none⟩))/\W.cell? ⟨G,1,none⟩=some (.slice (some ⟨b1,o1,none⟩) ng cg)/\W.cell? ⟨G,2,none⟩=some (.int .i64 (n:Int)))/\(W.cell? ⟨gx,0,none⟩=some (.slice ax m cx)/\W.cell? ⟨gx,1,none⟩=some (.int .i64 (r1:Int))/\W.cell? ⟨gx,2,none⟩=some (.slice a1' N1' c1'))/\(W.cell? ⟨gy,0,none⟩=some (.slice (adS ax cx m) ky (cx-m))/\W.cell? ⟨gy,1,none⟩=some (.int .i64 (r2:Int))/\W.cell? ⟨gy,2,none⟩=some (.slice a2' N2' c2'))/\(W.cell? ⟨B,0,none⟩=some (.int .i64 gk)/\W.cell? ⟨B,1,none⟩=some (.int .i64 (ga:Int))/\W.cell? ⟨B,2,none⟩=some (.int .i64 (gb:Int)))) (by kernel_rfl) (HSB.out _ HBD2.out) (fun hHeld=>?_);refine Aa 0 (.pointer (some ⟨G,0,none⟩)) ?_;simp only[Ac];refine Aa 1 (.pointer (some ⟨b,0,none⟩)) ?_;simp only[Ac];refine Aa 2 (.int .i64 s0) ?_;simp only[Ac];refine Aa 3 (.agg #[.pointer (some ⟨b,0,none⟩),.slice (some ⟨b1,o1,none⟩) ng cg,.int .i64 (n:Int)]) ?_;simp only[Ac];refine Aa 4 (.agg #[.pointer (some ⟨b,0,none⟩),.slice (some ⟨b1,o1,none⟩) ng cg,.int .i64 (n:Int)]) ?_;simp only[Ac];refine Aa 5 (.int .i64 (k:Int)) ?_;simp only[Ac];refine Aa 6 (.slice az nz cz) ?_;simp only[Ac];refine Aa 8 (.agg #[.pointer (some ⟨b,0,none⟩),.slice (some ⟨b1,o1,none⟩) ng cg,.int .i64 (n:Int)]) ?_;simp only[Ac];refine Aa 9 (.agg #[.slice ax m cx,.int .i64 (r1:Int),.slice a1' N1' c1']) ?_;simp only[Ac];refine Aa 10 (.pointer (some ⟨B,1,none⟩)) ?_;simp only[Ac];refine Aa 11 (.int .i64 (ga:Int)) ?_;simp only[Ac];refine Aa 13 (.pointer (some ⟨gx,0,none⟩)) ?_;simp only[Ac];refine Aa 14 (.slice ax m cx) ?_;simp only[Ac];refine Aa 16 (.agg #[.pointer (some ⟨b,0,none⟩),.slice (some ⟨b1,o1,none⟩) ng cg,.int .i64 (n:Int)]) ?_;simp only[Ac];refine Aa 17 (.agg #[.slice (adS ax cx m) ky (cx-m),.int .i64 (r2:Int),.slice a2' N2' c2']) ?_;simp only[Ac];refine Aa 18 (.pointer (some ⟨B,2,none⟩)) ?_;simp only[Ac];refine Aa 19 (.int .i64 (gb:Int)) ?_;simp only[Ac];refine Aa 21 (.pointer (some ⟨gy,0,none⟩)) ?_;simp only[Ac];refine Aa 22 (.slice (adS ax cx m) ky (cx-m)) ?_;simp only[Ac];refine Aa 24 (.int .i64 u4) ?_;simp only[Ac];refine Ab 7 fun K' hK'=>?_;go_simp;refine (HWZ.out _ HBD2.out).mono ?_;rintro e w13 ⟨rfl,hb3⟩;have hB13:=HBD2.out.trans (hb3.mono HBD2.out.size);have hS13:=HSB.out w13 hB13;clear hb3;refine hK'.out _ _ (hS13) (fun hHeld=>?_);clear hK' K';refine Ab 12 fun K' hK'=>?_;go_simp;refine (Zq _ _ ga r1 w13 (by omega)).mono ?_;rintro e w14 ⟨rfl,hb3⟩;have hB14:=hB13.trans (hb3.mono hB13.size);have hS14:=HSB.out w14 hB14;clear hb3 hB13 hS13;refine hK'.out _ _ (hS14) (fun hHeld=>?_);clear hK' K';refine Ab 15 fun K' hK'=>?_;go_simp;refine (HWX.out _ hB14).mono ?_;rintro e w15 ⟨rfl,hb3⟩;have hB15:=hB14.trans (hb3.mono hB14.size);have hS15:=HSB.out w15 hB15;clear hb3 hB14 hS14;refine hK'.out _ _ (hS15) (fun hHeld=>?_);clear hK' K';refine Ab 20 fun K' hK'=>?_;go_simp;refine (Zq _ _ gb r2 w15 (by omega)).mono ?_;rintro e w16 ⟨rfl,hb3⟩;have hB16:=hB15.trans (hb3.mono hB15.size);have hS16:=HSB.out w16 hB16;clear hb3 hB15 hS15;refine hK'.out _ _ (hS16) (fun hHeld=>?_);clear hK' K';refine Ab 23 fun K' hK'=>?_;go_simp;refine (HWY.out _ hB16).mono ?_;rintro e w17 ⟨rfl,hb3⟩;have hB17:=hB16.trans (hb3.mono hB16.size);have hS17:=HSB.out w17 hB17;clear hb3 hB16 hS16;refine hK'.out _ _ (hS17) (fun hHeld=>?_);clear hK' K';have hB6:=hB17.alloc hB17.size (.cells #[.int .i64 u1,.int .i64 u2,.int .i64 u3,.int .i64 u4] 3);have hS6:=HSB.out _ hB6;refine Ab 25 fun K' hK'=>?_;go_simp;refine hK'.out _ _ (hS6) (fun hHeld=>?_);clear hK' K';have HPX:=hid (HPR.out w17 hB17);generalize w17.alloc (.cells #[.int .i64 u1,.int .i64 u2,.int .i64 u3,.int .i64 u4] 3)=W6 at *;clear hS17 hB17;refine Ab 26 fun K' hK'=>?_;go_simp;refine (HPX.out).mono ?_;rintro e w7 ⟨rfl,hb7⟩;have hB7:=hB6.trans (hb7.mono hB6.size);have hS7:=HSB.out w7 hB7;clear hb7 hS6 hB6 HPX;refine hK'.out _ _ (hS7) (fun hHeld=>?_);clear hK' K';refine Ab 27 fun K' hK'=>?_;go_simp;refine (HAD.out _ hB7).mono ?_;rintro e w8 ⟨rfl,hw8⟩;have hw8':=hw8.symm;subst hw8';clear hw8;refine hK'.out _ _ (hS7) (fun hHeld=>?_);clear hK' K';refine Ab 28 fun K' hK'=>?_;go_simp;refine hK'.out _ _ (hS7) (fun hHeld=>?_);clear hK' K';refine wpAnyH_done (by kernel_rfl) ?_ _;go_wp2_with fail;go_roundw
    case rel=>exact⟨k+1,by omega,by go_num,⟨E,rfl,HFE.out⟩,HBX5.out _ hB7⟩
    case measure=>simp[intOf];omega
   ·obtain rfl:k=ng:=by omega
    have hlt2:¬ (k:Int)<(k:Int):=by omega
    have HE:Hid (Below w.heap.size w wr):=HBW.out wr (HW5.out wr hI.out);clear hI;go_wp2_with fail;go_ret;exact⟨by rw[<- hs.out];rfl,HE.out⟩
theorem Th (b i cL:Nat) (wide:Int) (aL:Option Addr) (lys:List (List GatZ)) (w:World) (hS:SzC wide lys) (hi:i<lys.length) (hl:LstGG w.heap.size w aL cL lys) (hT:TabAt 1 Lib.deBruijn64tab w) :
  Calls Tryz.prog 24 #[.pointer (some ⟨b,0,none⟩),.agg #[.int .i64 wide,.slice aL lys.length cL],.int .i64 (i:Int)] w fun e w'=>∃ ag cg,e=.returned (.agg #[.pointer (some ⟨b,0,none⟩),.slice ag (lyt lys i).length cg,.int .i64 (bnn wide lys i:Int)])/\LstG w.heap.size w ag cg (lyt lys i)/\Below w.heap.size w w':=by
 have HRL:Hid (((w.alloc (.cells #[.int .i64 wide,.slice aL lys.length cL] 24)).alloc (.cells #[.pointer none,.slice none 0 0,.int .i64 0] 84)).heap[w.heap.size+1]?=some (.cells #[.pointer none,.slice none 0 0,.int .i64 0] 84 (0,0))):=by have:=heap_alloc_new (w.alloc (.cells #[.int .i64 wide,.slice aL lys.length cL] 24)) (.cells #[.pointer none,.slice none 0 0,.int .i64 0] 84);rw[show (w.alloc (.cells #[.int .i64 wide,.slice aL lys.length cL] 24)).heap.size=w.heap.size+1 from by simp] at this;exact this
 have HB1:Hid (Below w.heap.size w ((w.alloc (.cells #[.int .i64 wide,.slice aL lys.length cL] 24)).alloc (.cells #[.pointer none,.slice none 0 0,.int .i64 0] 84))):=((Below.refl _ _).alloc (Nat.le_refl _) _).alloc (by simp) _;obtain⟨bi,oi,ag,cg,ha,hbi,hci,hgi⟩:=hl.row i hi;have HGI:=hid hgi;subst ha;obtain⟨q0,q1⟩:=hS.bn (i:=i) (by omega);have hlen:=hS.2.1.2;have hin:(i:Int)<(lys.length:Int):=by omega
 have hbi2:bi<w.heap.size+1:=by omega
 by_cases e0:i=0
 ·have q2:wide=(bnn wide lys i:Int):=by rw[<- q0];unfold bnz;rw[if_pos e0]
  rw[<- q2];have hi0:¬ (0:Int)<(i:Int):=by omega
  generalize (lyt lys i).length=N at *;generalize lys.length=n at *;clear hS hl hgi q0 q1 q2 e0 hT;go_enter Tryz.func24,Tryz.ntmps24;go_wp2_with (refine wpList_store_row rfl 84 _ _ rfl (w.heap.size+1) #[.pointer (some ⟨b,0,none⟩),.slice ag N cg,.int .i64 wide] rfl rfl _ _ HRL.out (by kernel_rfl) rfl (by simp[Value.oneCell']) ?_);refine bodyPost_ret (results_cell_row rfl _ _ (w.heap.size+1) 84 #[.pointer (some ⟨b,0,none⟩),.slice ag N cg,.int .i64 wide] (0,0) _ rfl (setRow_heap _ _ _ _ _ _ HRL.out) Tryz.underlying84 rfl (by kernel_rfl)) rfl ?_;exact⟨ag,cg,rfl,HGI.out,below_setRow HB1.out (by omega) _⟩
 ·obtain⟨j,hj⟩:=exE (i-1);obtain⟨bj,oj,aj,cj,ha,hbj,hcj,_⟩:=hl.row j (by omega);injection ha with ha
  injection ha with ha1 ha2 _
  subst ha1;subst ha2;have hbl:bnn wide lys i<=6:=q1;obtain⟨o1,o2⟩:=hS.own (i:=j) (by omega);rw[show j+1=i from by omega] at o1 o2;have HV:=hid (Ig (lyt lys j).length (bnn wide lys i) _ hbl o1 (xU hT HB1.out));have hi0:(0:Int)<(i:Int):=by omega
  have hij:(i:Int)-1=(j:Int):=by omega
  have hjn:(j:Int)<(lys.length:Int):=by omega
  generalize bnn wide lys i=B at *;generalize (lyt lys i).length=N at *;generalize (lyt lys j).length=M at *;generalize lys.length=n at *;clear hS hl hgi q0 q1 e0 hT hbl o1 o2 hj;go_enter Tryz.func24,Tryz.ntmps24;go_wp2_with fail;refine HV.out.mono ?_;rintro e w1 ⟨rfl,hw⟩;have hw1:=hw.symm;subst hw1;clear hw HV;go_wp2_with (refine wpList_store_row rfl 84 _ _ rfl (w.heap.size+1) #[.pointer (some ⟨b,0,none⟩),.slice ag N cg,.int .i64 (B:Int)] rfl rfl _ _ HRL.out (by kernel_rfl) rfl (by simp[Value.oneCell']) ?_);refine bodyPost_ret (results_cell_row rfl _ _ (w.heap.size+1) 84 #[.pointer (some ⟨b,0,none⟩),.slice ag N cg,.int .i64 (B:Int)] (0,0) _ rfl (setRow_heap _ _ _ _ _ _ HRL.out) Tryz.underlying84 rfl (by kernel_rfl)) rfl ?_;exact⟨ag,cg,rfl,HGI.out,below_setRow HB1.out (by omega) _⟩
theorem Ti (p b cg cl:Nat) (z:Value) (ag al:Option Addr) (gs:List GatZ) (l:List Int) (w:World) (h3:3<=p) (hm:p<=2147483647) (hp:w.cell? ⟨b,0,none⟩=some (.int .i64 p)) (hn:gs.length<=64) (hg:LstG w.heap.size w ag cg gs) (hl:Lst w.heap.size w al cl l) (hf:Fits l) (ho:∀ k,k<gs.length->GtO l.length (gat gs k)) :
  Calls Tryz.prog 56 #[.agg #[.pointer (some ⟨b,0,none⟩),.slice ag gs.length cg,z],.slice al l.length cl] w fun e w'=>∃ O,e=.returned (.slice (some ⟨O,0,none⟩) gs.length gs.length)/\w.heap.size<=O/\ArrI w' O 3 gs.length (zat (gvl p l gs))/\Below w.heap.size w w':=by
 obtain⟨W0,hW0⟩:=exE (w.alloc (.cells #[.pointer (some ⟨b,0,none⟩),.slice ag gs.length cg,z] 84));obtain⟨hb0,hs0,hz0⟩:=qV hW0;obtain⟨G,hG⟩:=exE (w.heap.size);rw[<- hG] at hs0;have HGE:=hid hG;obtain⟨n,hnn⟩:=exE (gs.length);have HN:=hid hnn;obtain⟨F,hF⟩:∃ F:Nat->Int,F=zat (gvl p l gs):=⟨_,rfl⟩
 have HFK:Hid (∀ k,k<n->F k=jnz p (gat gs k).kind (zat l (gat gs k).a.toNat) (zat l (gat gs k).b.toNat)):=fun k hk=>by rw[hF];unfold gvl;rw[kZ _ _ _ (by omega)]
 rw[<- hF];rw[<- hnn] at hn hs0 hW0 ⊢;have c0:=clA 1 hs0 rfl
 have HC:Hid (∀ W,Below W0.heap.size W0 W->(W.cell? ⟨G,0,none⟩=some (.pointer (some ⟨b,0,none⟩))/\W.cell? ⟨G,1,none⟩=some (.slice ag n cg)/\W.cell? ⟨G,2,none⟩=some z)/\W.cell? ⟨b,0,none⟩=some (.int .i64 p)):=fun W hW=>by have e1:=(hW.block G (by omega)).trans hs0;exact⟨⟨by simp[World.cell?,e1],by simp[World.cell?,e1],by simp[World.cell?,e1]⟩,(hW.cell (p:=⟨b,0,none⟩) (by have:=qK hp;show b<_;omega)).trans ((hb0.cell (p:=⟨b,0,none⟩) (qK hp)).trans hp)⟩
 have HL:=hid hl;have HGS:=hid hg;have HOK:=hid ho;have HFL:=hid hf;have HB0:=hid hb0;have HWG:=hid hW0;have hmk2:=fun w=>run_make_row' (P:=Tryz.prog) 25 3 (.int .i64 0) 8 Tryz.underlying25 Tryz.infoInt rfl .i64 .i64 n (by omega) (by omega) w;have HAM:Hid (ArrI (W0.alloc (.cells (madeCells #[.int .i64 0] n) 3)) W0.heap.size 3 n (fun _=>0)):=World.rowIs_made _ _ _ _;have HBM:Hid (Below W0.heap.size W0 (W0.alloc (.cells (madeCells #[.int .i64 0] n) 3))):=(Below.refl _ _).alloc (Nat.le_refl _) _;have HZ0:=hid hz0;clear hg hl hf ho hp hb0 hs0 hnn hF hG hz0 hW0;go_enter Tryz.func56,Tryz.ntmps56;go_wp2_with fail;obtain⟨O,hO⟩:=exE (w.heap.size+1);have HOZ:Hid (W0.heap.size=O):=by unfold Hid;rw[hO];exact HZ0.out
 rw[<- HWG.out,<- HGE.out,show G+1=O from by have:=HGE.out;omega];rw[HOZ.out] at HAM;have hGO:G<O:=by have:=HGE.out;omega
 have HOE:=hid hO;clear HWG c0 hO;generalize W0.alloc (.cells (madeCells #[.int .i64 0] n) 3)=W1 at *;go_loopw [6,7,15] (fun _ _ iv wr=>∃ k:Nat,k<=n/\iv=.int .i64 (k:Int)/\Hid (ArrI wr O 3 n (fll F (fun _=>0) k)/\Below W0.heap.size W0 wr)) (fun _ _ iv _=>n-(intOf iv).toNat)
 case atStart=>exact⟨0,by omega,rfl,by rw[jJ];exact HAM.out,HBM.out⟩
 case round =>
  obtain⟨k,hk,rfl,hI⟩:=hrel;by_cases hlt:k<n
  ·have hlt2:(k:Int)<(n:Int):=by omega
   have hks:IntKind.i64.wrap ((k:Int)+1)=(k:Int)+1:=by rw[IntKind.wrap_i64];omega
   have hbw:Below w.heap.size w wr:=HB0.out.trans (hI.out.2.mono HB0.out.size);obtain⟨b1,o1,rfl,hb1,g0,g1,g2⟩:=(HGS.out.below hbw).row k (by rw[<- HN.out];exact hlt);obtain⟨⟨hk0,hk1⟩,⟨ha0,ha1⟩,hb0',hb1'⟩:=HOK.out k (by rw[<- HN.out];exact hlt);have HFE:=hid (HFK.out k hlt);generalize gat gs k=g at *;obtain⟨ga,hga⟩:∃ ga:Nat,g.a=(ga:Int):=⟨g.a.toNat,by omega⟩
   obtain⟨gb,hgb⟩:∃ gb:Nat,g.b=(gb:Int):=⟨g.b.toNat,by omega⟩
   rw[hga] at g1 ha1;rw[hgb] at g2 hb1';rw[hga,hgb,Int.toNat_natCast,Int.toNat_natCast] at HFE;obtain⟨bl,ol,rfl,hbl,hxa⟩:=HL.out.row ga (by omega);obtain⟨bl',ol',hal,hbl',hxb⟩:=HL.out.row gb (by omega);injection hal with hal
   injection hal with hal1 hal2 _
   subst hal1;subst hal2;obtain⟨fa1,fa2⟩:=HFL.out.all ga;obtain⟨fb1,fb2⟩:=HFL.out.all gb;generalize zat l ga=xa at *;generalize zat l gb=xb at *;obtain⟨W2,hW2⟩:=exE (wr.alloc (.cells #[.int .i64 g.kind,.int .i64 (ga:Int),.int .i64 (gb:Int)] 61));obtain⟨hb2,hs2,hz2⟩:=qV hW2;obtain⟨B,hB⟩:=exE (wr.heap.size);have HBE:=hid hB;rw[<- hB] at hs2;have hOW:=hI.out.1.lt;have HB2:Hid (Below W0.heap.size W0 W2):=hI.out.2.trans (hb2.mono hI.out.2.size);have HBD:Hid (Below W2.heap.size W2 W2.drew):=(Below.refl _ _).drew
   have HSB:Hid (∀ W,Below W2.heap.size W2 W->(W.cell? ⟨G,0,none⟩=some (.pointer (some ⟨b,0,none⟩))/\W.cell? ⟨G,1,none⟩=some (.slice (some ⟨b1,o1,none⟩) n cg)/\W.cell? ⟨G,2,none⟩=some z)/\(W.cell? ⟨B,0,none⟩=some (.int .i64 g.kind)/\W.cell? ⟨B,1,none⟩=some (.int .i64 (ga:Int))/\W.cell? ⟨B,2,none⟩=some (.int .i64 (gb:Int)))/\W.cell? ⟨bl,ol+ga,none⟩=some (.int .i64 xa)/\W.cell? ⟨bl,ol+gb,none⟩=some (.int .i64 xb)):=fun W hW=>by have e1:=(hW.block B (by omega)).trans hs2;have hbW:Below w.heap.size w W:=HB0.out.trans ((HB2.out.trans (hW.mono HB2.out.size)).mono HB0.out.size);exact⟨(HC.out W (HB2.out.trans (hW.mono HB2.out.size))).1,⟨by simp[World.cell?,e1],by simp[World.cell?,e1],by simp[World.cell?,e1]⟩,(hbW.cell (p:=⟨bl,ol+ga,none⟩) hbl).trans hxa,(hbW.cell (p:=⟨bl,ol+gb,none⟩) hbl).trans hxb⟩
   have HSO:Hid (∀ W:World,((W.cell? ⟨G,0,none⟩=some (.pointer (some ⟨b,0,none⟩))/\W.cell? ⟨G,1,none⟩=some (.slice (some ⟨b1,o1,none⟩) n cg)/\W.cell? ⟨G,2,none⟩=some z)/\(W.cell? ⟨B,0,none⟩=some (.int .i64 g.kind)/\W.cell? ⟨B,1,none⟩=some (.int .i64 (ga:Int))/\W.cell? ⟨B,2,none⟩=some (.int .i64 (gb:Int)))/\W.cell? ⟨bl,ol+ga,none⟩=some (.int .i64 xa)/\W.cell? ⟨bl,ol+gb,none⟩=some (.int .i64 xb)) ->
     (((W.setCell ⟨O,k,none⟩ (.int .i64 (F k))).cell? ⟨G,0,none⟩=some (.pointer (some ⟨b,0,none⟩))/\(W.setCell ⟨O,k,none⟩ (.int .i64 (F k))).cell? ⟨G,1,none⟩=some (.slice (some ⟨b1,o1,none⟩) n cg)/\(W.setCell ⟨O,k,none⟩ (.int .i64 (F k))).cell? ⟨G,2,none⟩=some z)/\((W.setCell ⟨O,k,none⟩ (.int .i64 (F k))).cell? ⟨B,0,none⟩=some (.int .i64 g.kind)/\(W.setCell ⟨O,k,none⟩ (.int .i64 (F k))).cell? ⟨B,1,none⟩=some (.int .i64 (ga:Int))/\(W.setCell ⟨O,k,none⟩ (.int .i64 (F k))).cell? ⟨B,2,none⟩=some (.int .i64 (gb:Int)))/\(W.setCell ⟨O,k,none⟩ (.int .i64 (F k))).cell? ⟨bl,ol+ga,none⟩=some (.int .i64 xa)/\(W.setCell ⟨O,k,none⟩ (.int .i64 (F k))).cell? ⟨bl,ol+gb,none⟩=some (.int .i64 xb))):=fun W h=>by
    have xo:∀ (c o:Nat),c≠O->(W.setCell ⟨O,k,none⟩ (.int .i64 (F k))).cell? ⟨c,o,none⟩=W.cell? ⟨c,o,none⟩:=fun c o hc=>World.cell?_setCell_other _ _ _ _ (by intro e1;injection e1 with h2 _ _;exact hc h2.symm);have n1:G≠O:=by omega
    have n2:B≠O:=by omega
    have n3:bl≠O:=by have:=HOE.out;omega
    rw[xo _ _ n1,xo _ _ n1,xo _ _ n1,xo _ _ n2,xo _ _ n2,xo _ _ n2,xo _ _ n3,xo _ _ n3];exact h
   have HAB:Hid (∀ W,Below W2.drew.heap.size W2.drew W->ArrI W O 3 n (fll F (fun _=>0) k)):=fun W hW=>((hI.out.1.below hb2 hOW).below ((Below.refl _ _).drew (w:=W2)) (by omega)).below hW (by show O<W2.heap.size;omega);have HBO:Hid (∀ W,Below W2.drew.heap.size W2.drew W->Below W0.heap.size W0 W):=fun W hW=>HB2.out.drew.trans (hW.mono HB2.out.size)
   have HJO:Hid (∀ W,Below W2.heap.size W2 W->Calls Tryz.prog 106 #[.agg #[.pointer (some ⟨b,0,none⟩),.slice (some ⟨b1,o1,none⟩) n cg,z],.int .i64 g.kind,.int .i64 xa,.int .i64 xb] W fun e w'=>e=.returned (.int .i64 (F k))/\Below W.heap.size W w'):=fun W hW=>by rw[HFE.out];exact Dw p b _ _ g.kind xa xb W h3 hm (HC.out W (HB2.out.trans (hW.mono HB2.out.size))).2 fa1 fa2 fb1 fb2
   clear hI hb2 hs2 hz2 hbw hxa hxb hB;go_wp2_with fail;rw[<- hW2,<- HBE.out];clear hW2 g0 g1 g2;refine wp_region_held_drew (S:=fun W=>(W.cell? ⟨G,0,none⟩=some (.pointer (some ⟨b,0,none⟩))/\W.cell? ⟨G,1,none⟩=some (.slice (some ⟨b1,o1,none⟩) n cg)/\W.cell? ⟨G,2,none⟩=some z)/\(W.cell? ⟨B,0,none⟩=some (.int .i64 g.kind)/\W.cell? ⟨B,1,none⟩=some (.int .i64 (ga:Int))/\W.cell? ⟨B,2,none⟩=some (.int .i64 (gb:Int)))/\W.cell? ⟨bl,ol+ga,none⟩=some (.int .i64 xa)/\W.cell? ⟨bl,ol+gb,none⟩=some (.int .i64 xb)) (by kernel_rfl) (HSB.out _ HBD.out) (fun hHeld=>?_);refine Aa 0 (.slice (some ⟨O,0,none⟩) n n) ?_;simp only[Ac];refine Aa 1 (.int .i64 (k:Int)) ?_;simp only[Ac];refine Aa 2 (.agg #[.pointer (some ⟨b,0,none⟩),.slice (some ⟨b1,o1,none⟩) n cg,z]) ?_;simp only[Ac];refine Aa 3 (.pointer (some ⟨B,0,none⟩)) ?_;simp only[Ac];refine Aa 4 (.int .i64 g.kind) ?_;simp only[Ac];refine Aa 5 (.slice (some ⟨bl,ol,none⟩) l.length cl) ?_;simp only[Ac];refine Aa 6 (.pointer (some ⟨B,1,none⟩)) ?_;simp only[Ac];refine Aa 7 (.int .i64 (ga:Int)) ?_;simp only[Ac];refine Aa 8 (.pointer (some ⟨bl,ol+ga,none⟩)) ?_;simp only[Ac];refine Aa 9 (.int .i64 xa) ?_;simp only[Ac];refine Aa 10 (.slice (some ⟨bl,ol,none⟩) l.length cl) ?_;simp only[Ac];refine Aa 11 (.pointer (some ⟨B,2,none⟩)) ?_;simp only[Ac];refine Aa 12 (.int .i64 (gb:Int)) ?_;simp only[Ac];refine Aa 13 (.pointer (some ⟨bl,ol+gb,none⟩)) ?_;simp only[Ac];refine Aa 14 (.int .i64 xb) ?_;simp only[Ac];refine Ab 15 fun K' hK'=>?_;go_simp;refine (HJO.out _ HBD.out).mono ?_;rintro e w3 ⟨rfl,hb3⟩;have hS3:=HSB.out w3 (HBD.out.trans hb3);have HA3:=HAB.out w3 hb3;have c1:=HA3.cell hlt;have y1:=HA3.frozen k;have HA2:=hid HA3.next
   have HBL:=hid ((HBO.out w3 hb3).setCell (p:=⟨O,k,none⟩) (by show W0.heap.size<=O;have:=HOZ.out;omega) (.int .i64 (F k)));have HS4:=hid (HSO.out w3 hS3);generalize fll F (fun _=>0) k k=y0 at *;clear HA3 hb3;refine hK'.out _ _ (hS3) (fun hHeld=>?_);clear hK' K';refine Aa 16 (.pointer (some ⟨O,k,none⟩)) ?_;simp only[Ac];refine Ab 17 fun K' hK'=>?_;go_simp;refine hK'.out _ _ (HS4.out) (fun hHeld=>?_);clear hK' K';refine wpAnyH_done (by kernel_rfl) ?_ _;go_wp2_with fail;go_roundw
   case rel=>exact⟨k+1,by omega,by go_num,HA2.out,HBL.out⟩
   case measure=>simp[intOf];omega
  ·obtain rfl:k=n:=by omega
   have hlt2:¬ (k:Int)<(k:Int):=by omega
   have HE:Hid (ArrI wr O 3 k F/\Below w.heap.size w wr):=⟨hI.out.1.congr (fun j hj=>zV hj),HB0.out.trans (hI.out.2.mono HB0.out.size)⟩
   clear hI;go_wp2_with fail;go_ret;refine⟨O,?_,by have:=HOE.out;omega,HE.out⟩;rfl
end Go.Proofs.YtkdndfbfmchcpaaGreatDoor
