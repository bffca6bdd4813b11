
import Derived.Test.YtkdndfbfmchcpaaGreatDoorTgAI
set_option maxRecDepth 1000000
set_option maxHeartbeats 8000000
namespace Go.Proofs.YtkdndfbfmchcpaaGreatDoor
variable {a:Option Addr}{c i n p:Nat}{kind:Int}{l x y z:List Int}{w w':World}
open Go.RowKit
theorem xV{base size:Nat}{e:TypeId}{v:Value}{xs:List Value}{W:World} (h:w.ownsRow base e size v n xs) (hb:Below w.heap.size w W):W.ownsRow base e size v n xs :=
 h.kept (row:=none) ⟨hb.os,hb.tape,hb.output,hb.size,fun k hk _=>hb.block k hk⟩ (by cases v.ownBlock <;> simp)
open Go Go.RowKit
theorem Lx{ops:Array Oper}{rest:List Oper}{o:Oper}{act:Act}{Q:Exit->Act->World->Prop} (W:World) (base g:Nat) (y:Int) (hgd:o.guard=none) (s x:Operand)
  (ho:o.op=.call { callee:=.builtin .append,args:=#[s,x],argTypes:=#[25,25] }) (v:Value) (hs:act.eval s=v) (zs:List Int)
  (hown:W.ownsRow base 3 1 v zs.length (zs.map (Value.int .i64))) (hx:act.eval x=.slice (some ⟨g,0,none⟩) 1 1) (hc:W.cell? ⟨g,0,none⟩=some (.int .i64 y)) (hlen:zs.length<=17592186044000) (hbase:base<=W.heap.size)
  (h:∀ v' w2,w2.ownsRow base 3 1 v' (zs++[y]).length ((zs++[y]).map (Value.int .i64))->W.grownBy w2 v.ownBlock->(v'.ownBlock=v.ownBlock∨v'.ownBlock=some W.heap.size)->Below base W w2->wpList Tryz.prog ops Q rest (act.put o.dst v') w2) :
  wpList Tryz.prog ops Q (o :: rest) act W:=by
 obtain⟨i0,hi,hz0,hz1,hz2⟩:=info_parts Tryz.infoInt;refine wpList_append_own_at _ hgd s x 25 ho base 3 i0 (.int .i64 0) 1 8 Tryz.underlying25 hi hz0 hz1 hz2 rfl (by decide) _ _ _ hs hown ⟨g,0,none⟩ 1 1 [.int .i64 y] hx (by simp) ?_ ?_ (by unfold maxLen;omega) (by omega) hbase ?_
 ·intro j u hu
  match j,hu with
  | 0,hu=>simp at hu;subst hu;exact hc
  | j+1,hu=>simp at hu
 ·intro u hu;simp at hu;subst hu;rfl
 ·intro v' w2 hown2 hgrow _ hat;refine h v' w2 ?_ hgrow hat ((Below.refl base W).grown hgrow hbase (fun k hk=>(hown.lt k hk).1));rw[List.length_append,List.map_append];exact hown2
def onl (p:Nat) (x y:List Int) (t:Int):List Int:=ls (fun i=>(zat x i+t*(zat y i-zat x i)) % (p:Int)) x.length
theorem aFT (p:Nat) (x y t:Int):(x+t*((y-x) % (p:Int)) % (p:Int)) % (p:Int)=(x+t*(y-x)) % (p:Int):=by
 refine jK ?_;have h1:=Pol.emod_dvd p (t*((y-x) % (p:Int)));have h2:(p:Int)∣t*((y-x) % (p:Int)-(y-x)):=Int.dvd_mul_of_dvd_right (Pol.emod_dvd p (y-x));rw[Int.mul_sub] at h2;have:=Int.dvd_add h1 h2;generalize t*((y-x) % (p:Int)) % (p:Int)=A at *;generalize t*((y-x) % (p:Int))=B at *;generalize t*(y-x)=D at *
 rwa [show x+A-(x+D)=A-B+(B-D) from by omega]
theorem aC8 (h3:3<=p) {l:List Int} (hl:l.length=n) (r:Int):(p:Int)∣atz p l r-Pol.ps (FS p (Bk n) l n) r n:=by
 unfold atz;rw[aCu h3,hl,Bl];exact Pol.emod_dvd p _
theorem Zr (hp:Num.Prime p) (h3:3<=p) {l:List Int} (hn:n<=p) {j:Nat} (hj:j<n):(p:Int)∣Pol.ps (FS p (Bk n) l n) (j:Int) n-zat l j:=by
 have hl:(Bk n).length=n:=Bl _;have h:=Sum.pfit_at hp h3 (Bk n) l (by rw[hl];exact Lm hn) j (by rw[hl];exact hj);rw[hl,Ww hj] at h;exact h
def wrt (gs:List GatZ) (kind:Int) (z x y:List Int) (i:Nat):Int:=if (gat gs i).kind=kind then Sum.wgt (zat z) z.length i*Sum.wgt (zat x) x.length (gat gs i).a.toNat*Sum.wgt (zat y) y.length (gat gs i).b.toNat else 0
def wrz (p:Nat) (gs:List GatZ) (kind:Int) (z x y:List Int):Int:=Dom.sm (wrt gs kind z x y) gs.length % (p:Int)
theorem aC9{gs:List GatZ} (hk:(gat gs i).kind=kind):(Dom.sm (wrt gs kind z x y) i % (p:Int)+Sum.prz (zat [Sum.wgt (zat z) z.length i % (p:Int),Sum.wgt (zat x) x.length (gat gs i).a.toNat % (p:Int),Sum.wgt (zat y) y.length (gat gs i).b.toNat % (p:Int)]) 3 % (p:Int)) % (p:Int)=Dom.sm (wrt gs kind z x y) (i+1) % (p:Int):=by
 refine jK ?_;rw[Dom.sm];refine Sum.dvd_add_sub (Pol.emod_dvd p _) ?_;rw[show wrt gs kind z x y i=Sum.wgt (zat z) z.length i*Sum.wgt (zat x) x.length (gat gs i).a.toNat*Sum.wgt (zat y) y.length (gat gs i).b.toNat from if_pos hk];generalize Sum.wgt (zat z) z.length i=u1;generalize Sum.wgt (zat x) x.length (gat gs i).a.toNat=u2;generalize Sum.wgt (zat y) y.length (gat gs i).b.toNat=u3;have e:Sum.prz (zat [u1 % (p:Int),u2 % (p:Int),u3 % (p:Int)]) 3=u1 % (p:Int)*(u2 % (p:Int))*(u3 % (p:Int)):=by simp[Sum.prz,zat]
 rw[e];have h:=Sum.dvd_mul_sub (Sum.dvd_mul_sub (Pol.emod_dvd p u1) (Pol.emod_dvd p u2)) (Pol.emod_dvd p u3);have h2:=Pol.emod_dvd p (u1 % (p:Int)*(u2 % (p:Int))*(u3 % (p:Int)));have:=Int.dvd_add h2 h;generalize u1 % (p:Int)*(u2 % (p:Int))*(u3 % (p:Int)) % (p:Int)=A at *;generalize u1 % (p:Int)*(u2 % (p:Int))*(u3 % (p:Int))=B at *;generalize u1*u2*u3=D at *
 rwa [show A-B+(B-D)=A-D from by omega] at this
theorem aCA{gs:List GatZ} (hk:¬ (gat gs i).kind=kind):Dom.sm (wrt gs kind z x y) (i+1) % (p:Int)=Dom.sm (wrt gs kind z x y) i % (p:Int):=by
 rw[Dom.sm,show wrt gs kind z x y i=0 from if_neg hk,Int.add_zero]
theorem aCB (p b cg cz cx cy:Nat) (zz:Value) (kind:Int) (ag az ax ay:Option Addr) (gs:List GatZ) (z x y:List Int) (w:World) (h3:3<=p) (hm:p<=2147483647) (hp:w.cell? ⟨b,0,none⟩=some (.int .i64 p)) (hn:gs.length<=64) (hg:LstG w.heap.size w ag cg gs) (ho:∀ k,k<gs.length->0<=(gat gs k).a/\0<=(gat gs k).b) (hz:z.length<=60) (hx:x.length<=60) (hy:y.length<=60) (fz:Fits z) (fx:Fits x) (fy:Fits y) (rz:RowB w.heap.size w az z) (rx:RowB w.heap.size w ax x) (ry:RowB w.heap.size w ay y) :
  Calls Tryz.prog 112 #[.agg #[.pointer (some ⟨b,0,none⟩),.slice ag gs.length cg,zz],.int .i64 kind,.slice az z.length cz,.slice ax x.length cx,.slice ay y.length cy] w fun e w'=>e=.returned (.int .i64 (wrz p gs kind z x y))/\Below w.heap.size w w':=by
 obtain⟨W0,hW0⟩:=exE (w.alloc (.cells #[.pointer (some ⟨b,0,none⟩),.slice ag gs.length cg,zz] 84));obtain⟨hb0,hs0,hz0⟩:=qV hW0;obtain⟨G,hG⟩:=exE (w.heap.size);rw[<- hG] at hs0;have HGE:=hid hG;obtain⟨n,hnn⟩:=exE (gs.length);have HN:=hid hnn;obtain⟨F,hF⟩:∃ F:Nat->Int,F=fun k=>Dom.sm (wrt gs kind z x y) k % (p:Int):=⟨_,rfl⟩
 have HFB:Hid (∀ k,0<=F k/\F k<p):=fun k=>by rw[hF];exact qQ _ p h3
 have HF0:Hid (F 0=0):=by unfold Hid;rw[hF];rfl
 have HFS:Hid (∀ k,¬ (gat gs k).kind=kind->F (k+1)=F k):=fun k h=>by rw[hF];exact aCA h
 have HFA:Hid (∀ k,(gat gs k).kind=kind->(F k+Sum.prz (zat [Sum.wgt (zat z) z.length k % (p:Int),Sum.wgt (zat x) x.length (gat gs k).a.toNat % (p:Int),Sum.wgt (zat y) y.length (gat gs k).b.toNat % (p:Int)]) 3 % (p:Int)) % (p:Int)=F (k+1)):=fun k h=>by rw[hF];exact aC9 h
 rw[show wrz p gs kind z x y=F n from by rw[hF,hnn];rfl];rw[<- hnn] at hn hs0 hW0 ⊢;have c0:=clA 1 hs0 rfl
 have HC:Hid (∀ W,Below W0.heap.size W0 W->(W.cell? ⟨G,0,none⟩=some (.pointer (some ⟨b,0,none⟩))/\W.cell? ⟨G,1,none⟩=some (.slice ag n cg)/\W.cell? ⟨G,2,none⟩=some zz)/\W.cell? ⟨b,0,none⟩=some (.int .i64 p)):=fun W hW=>by have e1:=(hW.block G (by omega)).trans hs0;exact⟨⟨by simp[World.cell?,e1],by simp[World.cell?,e1],by simp[World.cell?,e1]⟩,(hW.cell (p:=⟨b,0,none⟩) (by have:=qK hp;show b<_;omega)).trans ((hb0.cell (p:=⟨b,0,none⟩) (qK hp)).trans hp)⟩
 have HGS:=hid hg;have HOK:=hid ho;have HB0:=hid hb0;have HWG:=hid hW0;have HBW:Hid (∀ W,Below W0.heap.size W0 W->Below w.heap.size w W):=fun W hW=>hb0.trans (hW.mono hb0.size)
 have HWZ0:Hid (∀ (W:World) (i:Nat),Below W0.heap.size W0 W->Calls Tryz.prog 142 #[.agg #[.pointer (some ⟨b,0,none⟩),.slice ag n cg,zz],.int .i64 (i:Int),.slice az z.length cz] W fun e w'=>e=.returned (.int .i64 (Sum.wgt (zat z) z.length i % (p:Int)))/\Below W.heap.size W w'):=fun W i hW=>by have hbw:=HBW.out W hW;exact Bc p b cz i _ _ az z W h3 hm (HC.out W hW).2 hz fz ((rz.below hbw).mono hbw.size)
 have HWX0:Hid (∀ (W:World) (i:Nat),Below W0.heap.size W0 W->Calls Tryz.prog 142 #[.agg #[.pointer (some ⟨b,0,none⟩),.slice ag n cg,zz],.int .i64 (i:Int),.slice ax x.length cx] W fun e w'=>e=.returned (.int .i64 (Sum.wgt (zat x) x.length i % (p:Int)))/\Below W.heap.size W w'):=fun W i hW=>by have hbw:=HBW.out W hW;exact Bc p b cx i _ _ ax x W h3 hm (HC.out W hW).2 hx fx ((rx.below hbw).mono hbw.size)
 have HWY0:Hid (∀ (W:World) (i:Nat),Below W0.heap.size W0 W->Calls Tryz.prog 142 #[.agg #[.pointer (some ⟨b,0,none⟩),.slice ag n cg,zz],.int .i64 (i:Int),.slice ay y.length cy] W fun e w'=>e=.returned (.int .i64 (Sum.wgt (zat y) y.length i % (p:Int)))/\Below W.heap.size W w'):=fun W i hW=>by have hbw:=HBW.out W hW;exact Bc p b cy i _ _ ay y W h3 hm (HC.out W hW).2 hy fy ((ry.below hbw).mono hbw.size)
 have HPR0:Hid (∀ (W:World) (u1 u2 u3:Int),Below W0.heap.size W0 W->(0<=u1/\u1<p)->(0<=u2/\u2<p)->(0<=u3/\u3<p)->Calls Tryz.prog 141 #[.agg #[.pointer (some ⟨b,0,none⟩),.slice ag n cg,zz],.slice (some ⟨W.heap.size,0,none⟩) 3 3] (W.alloc (.cells #[.int .i64 u1,.int .i64 u2,.int .i64 u3] 3)) fun e w'=>e=.returned (.int .i64 (Sum.prz (zat [u1,u2,u3]) 3 % (p:Int)))/\Below (W.alloc (.cells #[.int .i64 u1,.int .i64 u2,.int .i64 u3] 3)).heap.size (W.alloc (.cells #[.int .i64 u1,.int .i64 u2,.int .i64 u3] 3)) w'):=fun W u1 u2 u3 hW h1 h2 h4=>by
  have hA:=heap_alloc_new W (.cells #[.int .i64 u1,.int .i64 u2,.int .i64 u3] 3);have hBA:=hW.alloc hW.size (.cells #[.int .i64 u1,.int .i64 u2,.int .i64 u3] 3);refine Gm p b 3 _ _ (some ⟨W.heap.size,0,none⟩) [u1,u2,u3] _ h3 hm (HC.out _ hBA).2 (by simp) (fun i hi=>?_) (fun i hi=>?_)
  ·match i,hi with
   | 0,_=>simp[zat];omega
   | 1,_=>simp[zat];omega
   | 2,_=>simp[zat];omega
  ·refine⟨W.heap.size,0,rfl,by simp,?_⟩;rw[World.cell?];show (match (W.alloc (.cells #[.int .i64 u1,.int .i64 u2,.int .i64 u3] 3)).heap[W.heap.size]? with | some (.cells c _ _)=>c[0+i]? | _=>none)=_;rw[hA]
   match i,hi with
   | 0,_=>rfl
   | 1,_=>rfl
   | 2,_=>rfl
 have HAD0:Hid (∀ (W:World) (u1 u2:Int),Below W0.heap.size W0 W->(0<=u1/\u1<p)->(0<=u2/\u2<p)->Calls Tryz.prog 64 #[.pointer (some ⟨b,0,none⟩),.int .i64 u1,.int .i64 u2] W fun e w'=>e=.returned (.int .i64 ((u1+u2) % (p:Int)))/\w'=W):=fun W u1 u2 hW h1 h2=>yV p b u1 u2 W h3 hm (HC.out W hW).2 (by omega) (by omega) (by omega) (by omega);obtain⟨Uz,hUz⟩:∃ U:Nat->Int,U=fun i=>Sum.wgt (zat z) z.length i % (p:Int):=⟨_,rfl⟩
 obtain⟨Ux,hUx⟩:∃ U:Nat->Int,U=fun i=>Sum.wgt (zat x) x.length i % (p:Int):=⟨_,rfl⟩
 obtain⟨Uy,hUy⟩:∃ U:Nat->Int,U=fun i=>Sum.wgt (zat y) y.length i % (p:Int):=⟨_,rfl⟩
 have HUB:Hid (∀ i,(0<=Uz i/\Uz i<p)/\(0<=Ux i/\Ux i<p)/\(0<=Uy i/\Uy i<p)):=fun i=>by rw[hUz,hUx,hUy];exact⟨qQ _ p h3,qQ _ p h3,qQ _ p h3⟩
 simp only[show ∀ i,Sum.wgt (zat z) z.length i % (p:Int)=Uz i from fun i=>by rw[hUz],show ∀ i,Sum.wgt (zat x) x.length i % (p:Int)=Ux i from fun i=>by rw[hUx],show ∀ i,Sum.wgt (zat y) y.length i % (p:Int)=Uy i from fun i=>by rw[hUy]] at HFA HWZ0 HWX0 HWY0;generalize z.length=nz at *;generalize x.length=nx at *;generalize y.length=ny at *;clear hg ho hp hb0 hs0 hnn hF hG hz0 hW0 fz fx fy rz rx ry hUz hUx hUy hz hx hy;go_enter Tryz.func112,Tryz.ntmps112;go_wp2_with fail;rw[<- HWG.out,<- HGE.out];clear HWG c0;go_loopw [11,12,13,17] (fun sv _ _ iv wr=>∃ k:Nat,k<=n/\iv=.int .i64 (k:Int)/\(∃ s:Int,sv=.int .i64 s/\Hid (s=F k))/\Hid (Below W0.heap.size W0 wr)) (fun _ _ _ iv _=>n-(intOf iv).toNat)
 case atStart=>exact⟨0,by omega,rfl,⟨0,rfl,HF0.out.symm⟩,Below.refl _ _⟩
 case round =>
  obtain⟨k,hk,rfl,⟨s0,rfl,hs⟩,hI⟩:=hrel;by_cases hlt:k<n
  ·have hlt2:(k:Int)<(n:Int):=by omega
   have hks:IntKind.i64.wrap ((k:Int)+1)=(k:Int)+1:=by rw[IntKind.wrap_i64];omega
   have hbw:Below w.heap.size w wr:=HBW.out wr hI.out;obtain⟨b1,o1,rfl,hb1,g0,g1,g2⟩:=(HGS.out.below hbw).row k (by rw[<- HN.out];exact hlt);obtain⟨ha0,hb0'⟩:=HOK.out k (by rw[<- HN.out];exact hlt);have HFE:=hid (HFA.out k);have HFN:=hid (HFS.out k);generalize gat gs k=g at *;obtain⟨gk,ga0,gb0⟩:=g;simp only at g0 g1 g2 ha0 hb0' HFE HFN;obtain⟨ga,rfl⟩:∃ ga:Nat,ga0=(ga:Int):=⟨ga0.toNat,by omega⟩
   obtain⟨gb,rfl⟩:∃ gb:Nat,gb0=(gb:Int):=⟨gb0.toNat,by omega⟩
   rw[Int.toNat_natCast,Int.toNat_natCast] at HFE;obtain⟨W2,hW2⟩:=exE (wr.alloc (.cells #[.int .i64 gk,.int .i64 (ga:Int),.int .i64 (gb:Int)] 61));obtain⟨hb2,hs2,hz2⟩:=qV hW2;obtain⟨B,hB⟩:=exE (wr.heap.size);have HBE:=hid hB;rw[<- hB] at hs2;have HB2:Hid (Below W0.heap.size W0 W2):=hI.out.trans (hb2.mono hI.out.size);by_cases hkk:gk=kind
   ·subst hkk;have hkb:(gk==gk)=true:=beq_self_eq_true _;have HBD:Hid (Below W2.heap.size W2 W2.drew):=(Below.refl _ _).drew;have HBX:Hid (∀ W,Below W2.heap.size W2 W->Below W0.heap.size W0 W):=fun W hW=>HB2.out.trans (hW.mono HB2.out.size)
    have HSB:Hid (∀ W,Below W2.heap.size W2 W->(W.cell? ⟨G,0,none⟩=some (.pointer (some ⟨b,0,none⟩))/\W.cell? ⟨G,1,none⟩=some (.slice (some ⟨b1,o1,none⟩) n cg)/\W.cell? ⟨G,2,none⟩=some zz)/\(W.cell? ⟨B,0,none⟩=some (.int .i64 gk)/\W.cell? ⟨B,1,none⟩=some (.int .i64 (ga:Int))/\W.cell? ⟨B,2,none⟩=some (.int .i64 (gb:Int)))):=fun W hW=>by have e1:=(hW.block B (by omega)).trans hs2;exact⟨(HC.out W (HBX.out W hW)).1,by simp[World.cell?,e1],by simp[World.cell?,e1],by simp[World.cell?,e1]⟩
    obtain⟨u1,hu1⟩:∃ u,u=Uz k:=⟨_,rfl⟩
    obtain⟨u2,hu2⟩:∃ u,u=Ux ga:=⟨_,rfl⟩
    obtain⟨u3,hu3⟩:∃ u,u=Uy gb:=⟨_,rfl⟩
    have q1:=(HUB.out k).1;have q2:=(HUB.out ga).2.1;have q3:=(HUB.out gb).2.2;have HWZ:=hid (fun W h=>HWZ0.out W k (HBX.out W h));have HWX:=hid (fun W h=>HWX0.out W ga (HBX.out W h));have HWY:=hid (fun W h=>HWY0.out W gb (HBX.out W h));have HFE2:=hid (HFE.out rfl);rw[<- hu1,<- hu2,<- hu3] at HFE2;rw[<- hu1] at HWZ q1;rw[<- hu2] at HWX q2;rw[<- hu3] at HWY q3;have HPR:=hid (fun W h=>HPR0.out W u1 u2 u3 (HBX.out W h) q1 q2 q3);obtain⟨t1,t2⟩:=qQ (Sum.prz (zat [u1,u2,u3]) 3) p h3;generalize Sum.prz (zat [u1,u2,u3]) 3 % (p:Int)=T at *;have hsb:=HFB.out k;rw[<- hs.out] at hsb HFE2;have HAD:=hid (fun W h=>HAD0.out W s0 T (HBX.out W h) hsb ⟨t1,t2⟩);generalize (s0+T) % (p:Int)=E at *;clear hI hb2 hs2 hz2 hbw hB hs hsb t1 t2 q1 q2 q3 hu1 hu2 hu3 HFN HFE;go_wp2_with fail;rw[<- hW2,<- HBE.out];clear hW2 g0 g1 g2;refine wp_region_held_drew (S:=fun W=>(W.cell? ⟨G,0,none⟩=some (.pointer (some ⟨b,0,none⟩))/\W.cell? ⟨G,1,none⟩=some (.slice (some ⟨b1,o1,none⟩) n cg)/\W.cell? ⟨G,2,none⟩=some zz)/\(W.cell? ⟨B,0,none⟩=some (.int .i64 gk)/\W.cell? ⟨B,1,none⟩=some (.int .i64 (ga:Int))/\W.cell? ⟨B,2,none⟩=some (.int .i64 (gb:Int)))) (by kernel_rfl) (HSB.out _ HBD.out) (fun hHeld=>?_);refine Aa 0 (.pointer (some ⟨G,0,none⟩)) ?_;simp only[Ac];refine Aa 1 (.pointer (some ⟨b,0,none⟩)) ?_;simp only[Ac];refine Aa 2 (.int .i64 s0) ?_;simp only[Ac];refine Aa 3 (.agg #[.pointer (some ⟨b,0,none⟩),.slice (some ⟨b1,o1,none⟩) n cg,zz]) ?_;simp only[Ac];refine Aa 4 (.agg #[.pointer (some ⟨b,0,none⟩),.slice (some ⟨b1,o1,none⟩) n cg,zz]) ?_;simp only[Ac];refine Aa 5 (.int .i64 (k:Int)) ?_;simp only[Ac];refine Aa 6 (.slice az nz cz) ?_;simp only[Ac];refine Aa 8 (.agg #[.pointer (some ⟨b,0,none⟩),.slice (some ⟨b1,o1,none⟩) n cg,zz]) ?_;simp only[Ac];refine Aa 9 (.pointer (some ⟨B,1,none⟩)) ?_;simp only[Ac];refine Aa 10 (.int .i64 (ga:Int)) ?_;simp only[Ac];refine Aa 11 (.slice ax nx cx) ?_;simp only[Ac];refine Aa 13 (.agg #[.pointer (some ⟨b,0,none⟩),.slice (some ⟨b1,o1,none⟩) n cg,zz]) ?_;simp only[Ac];refine Aa 14 (.pointer (some ⟨B,2,none⟩)) ?_;simp only[Ac];refine Aa 15 (.int .i64 (gb:Int)) ?_;simp only[Ac];refine Aa 16 (.slice ay ny cy) ?_;simp only[Ac];refine Ab 7 fun K' hK'=>?_;go_simp;refine (HWZ.out _ HBD.out).mono ?_;rintro e w3 ⟨rfl,hb3⟩;have hB3:=HBD.out.trans hb3;have hS3:=HSB.out w3 hB3;clear hb3;refine hK'.out _ _ (hS3) (fun hHeld=>?_);clear hK' K';refine Ab 12 fun K' hK'=>?_;go_simp;refine (HWX.out _ hB3).mono ?_;rintro e w4 ⟨rfl,hb4⟩;have hB4:=hB3.trans (hb4.mono hB3.size);have hS4:=HSB.out w4 hB4;clear hb4 hS3 hB3;refine hK'.out _ _ (hS4) (fun hHeld=>?_);clear hK' K';refine Ab 17 fun K' hK'=>?_;go_simp;refine (HWY.out _ hB4).mono ?_;rintro e w5 ⟨rfl,hb5⟩;have hB5:=hB4.trans (hb5.mono hB4.size);have hS5:=HSB.out w5 hB5;clear hb5 hS4 hB4;refine hK'.out _ _ (hS5) (fun hHeld=>?_);clear hK' K';have hB6:=hB5.alloc hB5.size (.cells #[.int .i64 u1,.int .i64 u2,.int .i64 u3] 3);have hS6:=HSB.out _ hB6;refine Ab 18 fun K' hK'=>?_;go_simp;refine hK'.out _ _ (hS6) (fun hHeld=>?_);clear hK' K';have HPX:=hid (HPR.out w5 hB5);generalize w5.alloc (.cells #[.int .i64 u1,.int .i64 u2,.int .i64 u3] 3)=W6 at *;clear hS5 hB5;refine Ab 19 fun K' hK'=>?_;go_simp;refine (HPX.out).mono ?_;rintro e w7 ⟨rfl,hb7⟩;have hB7:=hB6.trans (hb7.mono hB6.size);have hS7:=HSB.out w7 hB7;clear hb7 hS6 hB6 HPX;refine hK'.out _ _ (hS7) (fun hHeld=>?_);clear hK' K';refine Ab 20 fun K' hK'=>?_;go_simp;refine (HAD.out _ hB7).mono ?_;rintro e w8 ⟨rfl,hw8⟩;have hw8':=hw8.symm;subst hw8';clear hw8;refine hK'.out _ _ (hS7) (fun hHeld=>?_);clear hK' K';refine Ab 21 fun K' hK'=>?_;go_simp;refine hK'.out _ _ (hS7) (fun hHeld=>?_);clear hK' K';refine wpAnyH_done (by kernel_rfl) ?_ _;go_wp2_with fail;go_roundw
    case rel=>exact⟨k+1,by omega,by go_num,⟨E,rfl,HFE2.out⟩,HBX.out _ hB7⟩
    case measure=>simp[intOf];omega
   ·have hkb:(gk==kind)=false:=by rw[beq_eq_false_iff_ne];exact hkk
    have HE:Hid (s0=F (k+1)):=by unfold Hid;rw[HFN.out hkk];exact hs.out
    have d0:=clA 0 hs2 rfl;clear hI hb2 hs2 hz2 hbw hB hs HFN HFE hkk;go_wp2_with fail;rw[<- hW2];go_roundw
    case rel=>exact⟨k+1,by omega,by go_num,⟨s0,rfl,HE.out⟩,HB2.out⟩
    case measure=>simp[intOf];omega
  ·obtain rfl:k=n:=by omega
   have hlt2:¬ (k:Int)<(k:Int):=by omega
   have HE:Hid (Below w.heap.size w wr):=HBW.out wr hI.out;clear hI;go_wp2_with fail;go_ret;exact⟨by rw[<- hs.out];rfl,HE.out⟩
def NumL (w:World) (a:Option Addr) (c:Nat) (l:List Int):Prop:=Lst w.heap.size w a c l/\(0<l.length->∃ g o cs f,a=some ⟨g,o,none⟩/\w.heap[g]?=some (.cells cs 3 f))
theorem aCC (w:World):NumL w none 0 []:=⟨⟨fun _ h=>absurd h (Nat.not_lt_zero _),Nat.zero_le _,fun _=>rfl⟩,fun h=>absurd h (Nat.lt_irrefl _)⟩
theorem NumL.blocks (h:NumL w a c l) (hs:w.heap.size<=w'.heap.size) (e:∀ (g:Nat) (cs:Array Value) (f:Nat × Nat),w.heap[g]?=some (.cells cs 3 f)->w'.heap[g]?=w.heap[g]?):NumL w' a c l:=by
 obtain⟨hl,hn⟩:=h;refine⟨⟨fun k hk=>?_,hl.room,hl.nil⟩,fun h0=>?_⟩
 ·obtain⟨b,o,rfl,h2,h3⟩:=hl.row k hk;obtain⟨g',o',cs,f,e1,hb⟩:=hn (by omega);cases e1;exact⟨b,o,rfl,by omega,(World.cell?_of_block (w:=w) (a:=⟨b,o+k,none⟩) (e b cs f hb)).trans h3⟩
 ·obtain⟨g,o,cs,f,rfl,hb⟩:=hn h0;exact⟨g,o,cs,f,rfl,(e g cs f hb).trans hb⟩
theorem NumL.below (h:NumL w a c l) (e:Below w.heap.size w w'):NumL w' a c l :=
 h.blocks e.size (fun g _ _ hg=>e.block g (Array.getElem?_eq_some_iff.1 hg).1)
theorem Bv{g:Nat}{A B:World} (h:A.grownBy B (some g)) (hn:n<=g) (hs:n<=A.heap.size):Below n A B:=⟨h.os,h.tape,h.output,h.size,fun k hk=>qY h (by omega) (by omega)⟩
end Go.Proofs.YtkdndfbfmchcpaaGreatDoor
