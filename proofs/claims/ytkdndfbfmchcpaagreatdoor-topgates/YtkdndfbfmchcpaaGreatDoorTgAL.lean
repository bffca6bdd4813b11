
import Derived.Test.YtkdndfbfmchcpaaGreatDoorTgAK
set_option maxRecDepth 1000000
set_option maxHeartbeats 8000000
namespace Go.Proofs.YtkdndfbfmchcpaaGreatDoor
variable {k n p q:Nat}{wide:Int}
open Go.RowKit
def gtz (g:GatZ):List Int:=[g.kind,g.a,g.b]
def gtl (gs:List GatZ) (k:Nat):List Int:=((gs.take k).map gtz).flatten
def lyz (gs:List GatZ):List Int:=(gs.length:Int) :: gtl gs gs.length
def lyl (lys:List (List GatZ)) (k:Nat):List Int:=((lys.take k).map lyz).flatten
def lbz (p:Nat) (wide:Int) (lys:List (List GatZ)) (k:Nat):List Int:=[(p:Int),wide,(lys.length:Int)]++lyl lys k
theorem Ma{α:Type} (l:List α) (d:α) {k:Nat} (h:k<l.length):l.take (k+1)=l.take k++[l.getD k d]:=by
 rw[List.take_add_one,List.getElem?_eq_getElem h,List.getD_eq_getElem?_getD,List.getElem?_eq_getElem h];rfl
theorem Mb{gs:List GatZ} (h:k<gs.length):gtl gs (k+1)=gtl gs k++[(gat gs k).kind,(gat gs k).a,(gat gs k).b]:=by
 unfold gtl;rw[Ma gs ⟨0,0,0⟩ h,List.map_append,List.flatten_append];simp[gtz,gat]
theorem Mc{lys:List (List GatZ)} (h:k<lys.length):lyl lys (k+1)=lyl lys k++((lyt lys k).length:Int) :: gtl (lyt lys k) (lyt lys k).length:=by
 unfold lyl;rw[Ma lys [] h,List.map_append,List.flatten_append];simp[lyz,lyt]
theorem Qp {gs:List GatZ}:∀ k,k<=gs.length->(gtl gs k).length=3*k
 | 0,_=>by simp[gtl]
 | k+1,h=>by rw[Mb (by omega),List.length_append,Qp k (by omega)];simp;omega
theorem Zv {wide:Int} {lys:List (List GatZ)} (hS:SzC wide lys):∀ k,k<=lys.length->(lyl lys k).length<=193*k
 | 0,_=>by simp[lyl]
 | k+1,h=>by have h1:=Zv hS k (by omega);have h2:=Dn (hS.bn (show k+1<=lys.length by omega)).2;rw[Mc (by omega),List.length_append,List.length_cons,Qp _ (Nat.le_refl _),(hS.own (show k<lys.length by omega)).1];omega
theorem To {gs:List GatZ} (hB:Vr gs):∀ k,k<=gs.length->Fits (gtl gs k)
 | 0,_=>fun j hj=>by simp[gtl] at hj
 | k+1,h=>by rw[Mb (by omega)];obtain⟨h1,h2,h3⟩:=hB k (by omega);exact yU (To hB k (by omega)) (zX h1 (zX h2 (zX h3 (fun j hj=>by simp at hj))))
theorem Tp {lys:List (List GatZ)} (hB:CirB lys):∀ k,k<=lys.length->Fits (lyl lys k)
 | 0,_=>fun j hj=>by simp[lyl] at hj
 | k+1,h=>by rw[Mc (by omega)];have:=hB.lens k (by omega);exact yU (Tp hB k (by omega)) (zX ⟨by omega,by omega⟩ (To (hB.fit k (by omega)) _ (Nat.le_refl _)))
theorem aEq{lys:List (List GatZ)} (hS:SzC wide lys) {k:Nat} (hk:k<=lys.length):(lbz p wide lys k).length<=1547:=by
 have:=Zv hS k hk;have:=hS.2.1.2;unfold lbz;rw[List.length_append];simp;omega
theorem aCE{lys:List (List GatZ)} (hm:p<=2147483647) (hS:SzC wide lys) (hB:CirB lys) {k:Nat} (hk:k<=lys.length):Fits (lbz p wide lys k):=by
 have h1:=hS.1;have h2:=hB.len;exact yU (zX ⟨by omega,by omega⟩ (zX ⟨by omega,by omega⟩ (zX ⟨by omega,by omega⟩ (fun j hj=>by simp at hj)))) (Tp hB k hk)
def gan (q n:Nat) (D l:List Int):List Int:=digl q n (4 :: digl q n (3 :: (D++l)))
theorem Gx (h3:3<=q) (h4:q<=2147483647) (n:Nat) (D l:List Int):Dig (gan q n D l):=zY h3 h4 _ _
def gds (q n:Nat) (rs:List (List Int)) (D:List Int):Nat->List Int
 | 0=>D
 | k+1=>gan q n (gds q n rs D k) (rat rs k)
theorem Zw (h3:3<=q) (h4:q<=2147483647) (n:Nat) (rs:List (List Int)) {D:List Int} (h:Dig D):∀ k,Dig (gds q n rs D k)
 | 0=>h
 | _+1=>Gx h3 h4 _ _ _
def gxs (q n:Nat) (rs:List (List Int)) (D:List Int) (k:Nat):List Int:=ls (fun i=>zat (gds q n rs D (i+1)) 0) k
def gcs (q n:Nat) (rs:List (List Int)) (D:List Int) (c:Int):Nat->Int
 | 0=>c
 | k+1=>atz q (rat rs k) (zat (gds q n rs D (k+1)) 0)
def enz (q:Nat) (gs:List GatZ) (z x y line:List Int) (m:Nat):Int :=
 (wrz q gs 0 z x y*jnz q 0 (zat line 0) (zat line (min 1 m)) % (q:Int)+wrz q gs 1 z x y*jnz q 1 (zat line 0) (zat line (min 1 m)) % (q:Int)) % (q:Int)
structure GSt where
 D:List Int
 z:List Int
 c:Int
def gnx (q n m:Nat) (rs:List (List Int)) (line:List Int) (s:GSt):GSt :=
 ⟨gan q n (gds q n rs s.D (2*m)) line,onl q ((gxs q n rs s.D (2*m)).take m) ((gxs q n rs s.D (2*m)).drop m) (zat (gan q n (gds q n rs s.D (2*m)) line) 0),atz q line (zat (gan q n (gds q n rs s.D (2*m)) line) 0)⟩
def GrO (q n:Nat) (rs:List (List Int)) (s:GSt) (k:Nat):Prop:=(rat rs k).length=3/\(zat (rat rs k) 0+zat (rat rs k) 1) % (q:Int)=gcs q n rs s.D s.c k
def GlO (q n m:Nat) (gs:List GatZ) (rs:List (List Int)) (line:List Int) (s:GSt):Prop :=
 (rs.length=2*m/\line.length=m+1)/\(∀ k,k<2*m->GrO q n rs s k)/\enz q gs s.z ((gxs q n rs s.D (2*m)).take m) ((gxs q n rs s.D (2*m)).drop m) line m=gcs q n rs s.D s.c (2*m)
def rrt (rs:List (List (List Int))) (k:Nat):List (List Int):=rs.getD k []
def gst (q n:Nat) (wide:Int) (lys:List (List GatZ)) (Rs:List (List (List Int))) (Ls:List (List Int)) (s0:GSt):Nat->GSt
 | 0=>s0
 | i+1=>gnx q n (bnn wide lys (lys.length-1-i)) (rrt Rs i) (rat Ls i) (gst q n wide lys Rs Ls s0 i)
def gs0 (q n:Nat) (wide:Int) (lys:List (List GatZ)) (outs:List Int):GSt :=
 ⟨drw q n (bnn wide lys lys.length) (digl q n (2 :: (lbz q wide lys lys.length++outs))),drs q n (bnn wide lys lys.length) (digl q n (2 :: (lbz q wide lys lys.length++outs))),Sum.ext (zat outs) (zat (drs q n (bnn wide lys lys.length) (digl q n (2 :: (lbz q wide lys lys.length++outs))))) (bnn wide lys lys.length) % (q:Int)⟩
def GsO (wide:Int) (lys:List (List GatZ)) (outs:List Int) (Rs:List (List (List Int))) (Ls:List (List Int)):Prop:=flt wide lys=0/\outs.length=(lyt lys (lys.length-1)).length/\Rs.length=lys.length/\Ls.length=lys.length
def GcO (q n:Nat) (wide:Int) (lys:List (List GatZ)) (outs:List Int) (Rs:List (List (List Int))) (Ls:List (List Int)):Prop :=
 GsO wide lys outs Rs Ls/\∀ i,i<lys.length->GlO q n (bnn wide lys (lys.length-1-i)) (lyt lys (lys.length-1-i)) (rrt Rs i) (rat Ls i) (gst q n wide lys Rs Ls (gs0 q n wide lys outs) i)
theorem Gy (q n:Nat) (rs:List (List Int)) (D:List Int) (k:Nat):(gxs q n rs D k).length=k:=kQ _ _
theorem aCF (h3:3<=q) (h4:q<=2147483647) (n:Nat) (rs:List (List Int)) {D:List Int} (h:Dig D) (k:Nat):Fits (gxs q n rs D k):=by
 intro j hj;unfold gxs at hj ⊢;rw[kQ] at hj;rw[kZ _ _ _ hj];have:=(Zw h3 h4 n rs h (j+1)).2.all 0;exact this
theorem Jz (p:Nat) (x y:List Int) (t:Int):(onl p x y t).length=x.length:=kQ _ _
theorem Tq (h3:3<=p) (hm:p<=2147483647) (x y:List Int) (t:Int):Fits (onl p x y t):=by
 intro j hj;unfold onl at hj ⊢;rw[kQ] at hj;rw[kZ _ _ _ hj];have:=qQ (zat x j+t*(zat y j-zat x j)) p h3;exact⟨by omega,by omega⟩
theorem Db (N0 q n c c1:Nat) (a1:Option Addr) (l D:List Int) (w:World) (h3:3<=q) (h4:q<=2147483647) (hP:PCh N0 q n w c D) (hD:Dig D) (hl1:l.length<=17592186043904) (hf1:Fits l) (H1:Lst w.heap.size w a1 c1 l) :
  Calls Tryz.prog 60 #[.pointer (some ⟨c,0,none⟩),.slice a1 l.length c1] w fun e w'=>e=.returned (.int .i64 (zat (gan q n D l) 0))/\PCh N0 q n w' c (gan q n D l)/\w.grownBy w' (some c):=by
 have HT1:=hid (Cu N0 q n c c1 a1 l D w hP hD hl1 hf1 H1);have HDR:=hid (fun (W:World) (h:PCh N0 q n W c (digl q n (3 :: (D++l))))=>Em N0 q n c _ W h (zY h3 h4 _ _));have HPD:Hid (gan q n D l=digl q n (4 :: digl q n (3 :: (D++l)))):=rfl;rw[HPD.out];generalize digl q n (4 :: digl q n (3 :: (D++l)))=D3 at *;generalize digl q n (3 :: (D++l))=D1 at *;generalize l.length=n1 at *;clear hP hD hf1 H1 HPD;go_enter Tryz.func60,Tryz.ntmps60;go_wp2_with fail;refine HT1.out.mono ?_;rintro e w1 ⟨rfl,hp1,hg1⟩;have HX:=hid (HDR.out w1 hp1);have HG1:=hid hg1;clear hp1 hg1 HT1 HDR;go_wp2_with fail;refine HX.out.mono ?_;rintro e w2 ⟨rfl,hp2,hg2⟩;have HE:Hid (PCh N0 q n w2 c D3/\w.grownBy w2 (some c)):=⟨hp2,qX HG1.out hg2⟩
 clear hp2 hg2 HX HG1;go_wp2_with fail;go_ret;exact⟨rfl,HE.out⟩
theorem Tr (h3:3<=p) (hm:p<=2147483647) (l:List Int) (r:Int):Bz (atz p l r):=by
 have:=Fe p l r h3;exact⟨by omega,by omega⟩
theorem aEr (h:n<=p):Unl p (zat (Bk n)) n:=fun i j hij hj e=>Lm h i j hij hj ((Pol.emod_eq_iff (show 0<p by omega)).1 e.symm)
theorem aCG (h:n<=1000):Fits (Bk n):=fun j hj=>by
 unfold Bk at hj ⊢;rw[kQ] at hj;rw[kZ _ _ _ hj];exact⟨by omega,by omega⟩
theorem Ix (p b cap:Nat) (y1 y2:Value) (a:Option Addr) (l:List Int) (r:Int) (w:World) (hpr:Num.Prime p) (h3:3<=p) (hm:p<=2147483647) (hp:w.cell? ⟨b,0,none⟩=some (.int .i64 p)) (hn:l.length<=1000) (hnp:l.length<=p) (hf:Fits l) (hr:Bz r) (hl:RowB w.heap.size w a l) :
  Calls Tryz.prog 65 #[.agg #[.pointer (some ⟨b,0,none⟩),y1,y2],.slice a l.length cap,.int .i64 r] w fun e w'=>e=.returned (.int .i64 (atz p l r))/\Below w.heap.size w w':=by
 obtain⟨W0,hW0⟩:=exE (w.alloc (.cells #[.pointer (some ⟨b,0,none⟩),y1,y2] 84));obtain⟨hb0,hs0,hz0⟩:=qV hW0;obtain⟨G,hG⟩:=exE (w.heap.size);rw[<- hG] at hs0;have HGE:=hid hG;have HB0:=hid hb0;have HGL:Hid (G<W0.heap.size):=by unfold Hid;omega
 have HC:Hid (∀ W,Below W0.heap.size W0 W->W.cell? ⟨G,0,none⟩=some (.pointer (some ⟨b,0,none⟩))/\W.cell? ⟨G,1,none⟩=some (y1)/\W.cell? ⟨G,2,none⟩=some (y2)/\W.cell? ⟨b,0,none⟩=some (.int .i64 p)):=fun W hW=>by have e:=(hW.block G HGL.out).trans hs0;have hb:=HB0.out.trans (hW.mono HB0.out.size);exact⟨by simp[World.cell?,e],by simp[World.cell?,e],by simp[World.cell?,e],(hb.cell (p:=⟨b,0,none⟩) (qK hp)).trans hp⟩
 have c0:=(HC.out W0 (Below.refl _ _)).1;obtain⟨n,hnn⟩:=exE (l.length);obtain⟨O,hO⟩:=exE (w.heap.size+1);have HOE:Hid (O=W0.heap.size):=by unfold Hid;omega
 have HFT:Hid (∀ W,Below W0.heap.size W0 W->ArrI W O 3 n (fun i=>(i:Int))->Calls Tryz.prog 111 #[.pointer (some ⟨b,0,none⟩),.slice (some ⟨O,0,none⟩) n n,.slice a n cap] W fun e w'=>∃ (a':Option Addr) (c':Nat),
   e=.returned (.tuple #[.slice a' (Dt p (Bk n) l).length c',.nilIface])/\aBw W.heap.size w' a' (Dt p (Bk n) l)/\Below W.heap.size W w'):=fun W hW hA=>by
  have h:=aEf p b n cap (some ⟨O,0,none⟩) a (Bk n) l W hpr h3 hm (HC.out W hW).2.2.2 (by rw[Bl];omega) (aCG (by omega)) hf (hA.rowB (by rw[Bl];exact Nat.le_refl _) (fun j hj=>by rw[Bl] at hj;unfold Bk;rw[kZ _ _ _ hj]) (by exact hA.lt)) ((hl.below (HB0.out.trans (hW.mono HB0.out.size))).mono (by have:=HB0.out.size;have:=hW.size;omega)) (by rw[Bl];exact hnn) (by rw[Bl];exact aEr (by omega));rw[Bl,<- hnn] at h;exact h
 have HEV:Hid (∀ W a' c',Below W0.heap.size W0 W->Ry (fun _=>True) W a' (Dt p (Bk n) l)->Calls Tryz.prog 82 #[.pointer (some ⟨b,0,none⟩),.slice a' (Dt p (Bk n) l).length c',.int .i64 r] W fun e w'=>e=.returned (.int .i64 (atz p l r))/\Below W.heap.size W w'):=fun W a' c' hW hR=>by have hle:=aEh p (Bk n) l;rw[Bl] at hle;refine (Fz p b c' _ a' (Dt p (Bk n) l) r W h3 hm (HC.out W hW).2.2.2 (by omega) (Ky hm (aCr h3 (Bk n) l)) hr.1 hr.2 hR).mono ?_;rintro e w' ⟨rfl,m,rfl⟩;exact⟨by unfold atz;rw[<- hnn],below_drewN (Below.refl _ _) m⟩
 have hmk2:=fun w=>run_make_row' (P:=Tryz.prog) 25 3 (.int .i64 0) 8 Tryz.underlying25 Tryz.infoInt rfl .i64 .i64 n (by omega) (by omega) w;rw[<- hnn] at hn ⊢;generalize (Dt p (Bk n) l)=F at *;generalize F.length=fl at *;generalize atz p l r=V at *;clear hp hf hl hnn hs0 hb0 hnp hG hz0;go_enter Tryz.func65,Tryz.ntmps65;go_wp2_with fail;rw[<- hO,<- HGE.out,<- hW0];clear hW0 hO;go_loopw [8,16] (fun _ iv wr=>∃ k:Nat,k<=n/\iv=.int .i64 (k:Int)/\Hid (ArrI wr O 3 n (fll (fun i=>(i:Int)) (fun _=>0) k)/\Below W0.heap.size W0 wr)) (fun _ iv _=>n-(intOf iv).toNat)
 case atStart=>exact⟨0,by omega,rfl,by rw[jJ,HOE.out];exact World.rowIs_made _ _ _ _,(Below.refl _ _).alloc (Nat.le_refl _) _⟩
 case round =>
  obtain⟨k,hk,rfl,hI⟩:=hrel;by_cases hlt:k<n
  ·have hlt2:(k:Int)<(n:Int):=by omega
   have hks:IntKind.i64.wrap ((k:Int)+1)=(k:Int)+1:=by rw[IntKind.wrap_i64];omega
   have x1:=hI.out.1.cell hlt;have x2:=hI.out.1.frozen k;have HE:Hid (ArrI (wr.setCell ⟨O,k,none⟩ (.int .i64 (k:Int))) O 3 n (fll (fun i=>(i:Int)) (fun _=>0) (k+1))/\Below W0.heap.size W0 (wr.setCell ⟨O,k,none⟩ (.int .i64 (k:Int)))):=⟨hI.out.1.next,hI.out.2.setCell (p:=⟨O,k,none⟩) (by show W0.heap.size<=O;have:=HOE.out;omega) _⟩
   generalize fll (fun i=>(i:Int)) (fun _=>0) k k=y0 at *;clear hI c0;go_wp2_with fail;go_roundw
   case rel=>exact⟨k+1,by omega,by go_num,HE.out⟩
   case measure=>simp[intOf];omega
  ·obtain rfl:k=n:=by omega
   have hlt2:¬ (k:Int)<(k:Int):=by omega
   have HFX:=hid (HFT.out wr hI.out.2 (hI.out.1.congr (fun j hj=>zV hj)));have c1:=(HC.out wr hI.out.2).1;have HBW:=hid hI.out.2;clear hI HFT c0;go_wp2_with fail;refine HFX.out.mono ?_;rintro e w3 ⟨a',c',rfl,hN3,hb3⟩;have HB3:Hid (Below W0.heap.size W0 w3):=HBW.out.trans (hb3.mono HBW.out.size);have HEX:=hid (HEV.out w3 a' c' HB3.out (fun k hk=>by obtain⟨b,o,h1,_,h3⟩:=hN3 k hk;exact⟨b,o,h1,trivial,h3⟩));have c2:=(HC.out w3 HB3.out).1;clear hN3 hb3 HFX c1 HEV;go_wp2_with fail;refine HEX.out.mono ?_;rintro e w4 ⟨rfl,hb4⟩;have HE:Hid (Below w.heap.size w w4):=HB0.out.trans ((HB3.out.trans (hb4.mono HB3.out.size)).mono HB0.out.size);clear hb4 HEX c2;go_wp2_with fail;go_ret;exact⟨rfl,HE.out⟩
theorem Dy (p b c1 c2:Nat) (y1 y2:Value) (a1 a2:Option Addr) (x y:List Int) (t:Int) (w:World) (h3:3<=p) (hm:p<=2147483647) (hp:w.cell? ⟨b,0,none⟩=some (.int .i64 p)) (hn:x.length<=1000) (hxy:y.length=x.length) (fx:Fits x) (fy:Fits y) (ht:Bz t) (rx:RowB w.heap.size w a1 x) (ry:RowB w.heap.size w a2 y) :
  Calls Tryz.prog 62 #[.agg #[.pointer (some ⟨b,0,none⟩),y1,y2],.slice a1 x.length c1,.slice a2 y.length c2,.int .i64 t] w fun e w'=>∃ O,e=.returned (.slice (some ⟨O,0,none⟩) x.length x.length)/\w.heap.size<=O/\ArrI w' O 3 x.length (zat (onl p x y t))/\Below w.heap.size w w':=by
 rw[hxy];obtain⟨W0,hW0⟩:=exE (w.alloc (.cells #[.pointer (some ⟨b,0,none⟩),y1,y2] 84));obtain⟨hb0,hs0,hz0⟩:=qV hW0;obtain⟨G,hG⟩:=exE (w.heap.size);rw[<- hG] at hs0;have HGE:=hid hG;have HB0:=hid hb0;have HGL:Hid (G<W0.heap.size):=by unfold Hid;omega
 have HC:Hid (∀ W,Below W0.heap.size W0 W->W.cell? ⟨G,0,none⟩=some (.pointer (some ⟨b,0,none⟩))/\W.cell? ⟨G,1,none⟩=some (y1)/\W.cell? ⟨G,2,none⟩=some (y2)/\W.cell? ⟨b,0,none⟩=some (.int .i64 p)):=fun W hW=>by have e:=(hW.block G HGL.out).trans hs0;have hb:=HB0.out.trans (hW.mono HB0.out.size);exact⟨by simp[World.cell?,e],by simp[World.cell?,e],by simp[World.cell?,e],(hb.cell (p:=⟨b,0,none⟩) (qK hp)).trans hp⟩
 have c0:=(HC.out W0 (Below.refl _ _)).1;obtain⟨n,hnn⟩:=exE (x.length);have HN:=hid hnn;obtain⟨F,hF⟩:∃ F:Nat->Int,F=zat (onl p x y t):=⟨_,rfl⟩
 have HFE:Hid (∀ k,k<n->(zat x k+t*((zat y k-zat x k) % (p:Int)) % (p:Int)) % (p:Int)=F k):=fun k hk=>by rw[hF,aFT];unfold onl;rw[kZ _ _ _ (by omega)]
 have HX:=hid fx;have HY:=hid fy;have HRX:Hid (∀ k,k<n->∃ b o,a1=some ⟨b,o,none⟩/\b<w.heap.size/\w.cell? ⟨b,o+k,none⟩=some (.int .i64 (zat x k))):=fun k hk=>rx k (by omega);have HRY:Hid (∀ k,k<n->∃ b o,a2=some ⟨b,o,none⟩/\b<w.heap.size/\w.cell? ⟨b,o+k,none⟩=some (.int .i64 (zat y k))):=fun k hk=>ry k (by omega);have hmk2:=fun w=>run_make_row' (P:=Tryz.prog) 25 3 (.int .i64 0) 8 Tryz.underlying25 Tryz.infoInt rfl .i64 .i64 n (by omega) (by omega) w;rw[<- hF];obtain⟨O,hO⟩:=exE (w.heap.size+1);have HOE:Hid (O=W0.heap.size):=by unfold Hid;omega
 have HOW:Hid (w.heap.size<=O):=by unfold Hid;omega
 simp only[<- hnn] at hn ⊢;clear hp fx fy rx ry hxy hF hnn hs0 hb0 hz0 hG;go_enter Tryz.func62,Tryz.ntmps62;go_wp2_with fail;rw[<- hO,<- HGE.out,<- hW0];clear hW0 hO;go_loopw [10,16] (fun _ iv wr=>∃ k:Nat,k<=n/\iv=.int .i64 (k:Int)/\Hid (ArrI wr O 3 n (fll F (fun _=>0) k)/\Below W0.heap.size W0 wr)) (fun _ iv _=>n-(intOf iv).toNat)
 case atStart=>exact⟨0,by omega,rfl,by rw[jJ,HOE.out];exact World.rowIs_made _ _ _ _,(Below.refl _ _).alloc (Nat.le_refl _) _⟩
 case round =>
  obtain⟨k,hk,rfl,hI⟩:=hrel;by_cases hlt:k<n
  ·have hlt2:(k:Int)<(n:Int):=by omega
   have hks:IntKind.i64.wrap ((k:Int)+1)=(k:Int)+1:=by rw[IntKind.wrap_i64];omega
   obtain⟨b1,o1,rfl,hb1,hx1⟩:=HRX.out k hlt;obtain⟨b2,o2,rfl,hb2,hx2⟩:=HRY.out k hlt;have HBW:=hid hI.out.2
   have HSB:Hid (∀ W,Below wr.heap.size wr W->W.cell? ⟨G,0,none⟩=some (.pointer (some ⟨b,0,none⟩))/\W.cell? ⟨b1,o1+k,none⟩=some (.int .i64 (zat x k))/\W.cell? ⟨b2,o2+k,none⟩=some (.int .i64 (zat y k))):=fun W hW=>by have h1:=HBW.out.trans (hW.mono HBW.out.size);have h2:=HB0.out.trans (h1.mono HB0.out.size);exact⟨(HC.out W h1).1,(h2.cell (p:=⟨b1,o1+k,none⟩) hb1).trans hx1,(h2.cell (p:=⟨b2,o2+k,none⟩) hb2).trans hx2⟩
   have HBD:Hid (Below wr.heap.size wr wr.drew):=(Below.refl _ _).drew;have HAB:Hid (ArrI wr.drew O 3 n (fll F (fun _=>0) k)):=hI.out.1.below ((Below.refl _ _).drew (w:=wr)) (by exact hI.out.1.lt);have HA2:Hid (ArrI (wr.drew.setCell ⟨O,k,none⟩ (.int .i64 (F k))) O 3 n (fll F (fun _=>0) (k+1))/\Below W0.heap.size W0 (wr.drew.setCell ⟨O,k,none⟩ (.int .i64 (F k)))):=⟨HAB.out.next,HBW.out.drew.setCell (p:=⟨O,k,none⟩) (by show W0.heap.size<=O;have:=HOE.out;omega) _⟩
   have HS4:Hid ((wr.drew.setCell ⟨O,k,none⟩ (.int .i64 (F k))).cell? ⟨G,0,none⟩=some (.pointer (some ⟨b,0,none⟩))/\(wr.drew.setCell ⟨O,k,none⟩ (.int .i64 (F k))).cell? ⟨b1,o1+k,none⟩=some (.int .i64 (zat x k))/\(wr.drew.setCell ⟨O,k,none⟩ (.int .i64 (F k))).cell? ⟨b2,o2+k,none⟩=some (.int .i64 (zat y k))):=by have h2:=HB0.out.trans (HA2.out.2.mono HB0.out.size);exact⟨(HC.out _ HA2.out.2).1,(h2.cell (p:=⟨b1,o1+k,none⟩) hb1).trans hx1,(h2.cell (p:=⟨b2,o2+k,none⟩) hb2).trans hx2⟩
   obtain⟨f1,f2⟩:=HX.out.all k;obtain⟨f3,f4⟩:=HY.out.all k;have HE:=hid (HFE.out k hlt);have hpc:∀ W,Below wr.heap.size wr W->W.cell? ⟨b,0,none⟩=some (.int .i64 p):=fun W hW=>(HC.out W (HBW.out.trans (hW.mono HBW.out.size))).2.2.2;generalize zat x k=X at *;generalize zat y k=Y at *;have HSU:=hid (fun W (h:Below wr.heap.size wr W)=>Ej p b Y X W h3 hm (hpc W h) f3 f4 f1 f2);obtain⟨e1,e2⟩:=qQ (Y-X) p h3;have HMU:=hid (fun W (h:Below wr.heap.size wr W)=>kK p b t ((Y-X) % (p:Int)) W h3 hm (hpc W h) ht.1 ht.2 (by omega) (by omega));generalize (Y-X) % (p:Int)=D1 at *;obtain⟨e3,e4⟩:=qQ (t*D1) p h3;have HAD:=hid (fun W (h:Below wr.heap.size wr W)=>yV p b X (t*D1 % (p:Int)) W h3 hm (hpc W h) f1 f2 (by omega) (by omega));generalize t*D1 % (p:Int)=D2 at *;rw[HE.out] at HAD;clear hI f1 f2 f3 f4 e1 e2 e3 e4 hb1 hx1 hb2 hx2 hpc HE c0;go_wp2_with fail;refine wp_region_held_drew (S:=fun W=>(W.cell? ⟨G,0,none⟩=some (.pointer (some ⟨b,0,none⟩)))/\W.cell? ⟨b1,o1+k,none⟩=some (.int .i64 X)/\W.cell? ⟨b2,o2+k,none⟩=some (.int .i64 Y)) (by kernel_rfl) (HSB.out _ HBD.out) (fun hHeld=>?_);refine Aa 0 (.slice (some ⟨O,0,none⟩) n n) ?_;simp only[Ac];refine Aa 1 (.int .i64 (k:Int)) ?_;simp only[Ac];refine Aa 2 (.pointer (some ⟨G,0,none⟩)) ?_;simp only[Ac];refine Aa 3 (.pointer (some ⟨b,0,none⟩)) ?_;simp only[Ac];refine Aa 4 (.slice (some ⟨b1,o1,none⟩) n c1) ?_;simp only[Ac];refine Aa 5 (.int .i64 (k:Int)) ?_;simp only[Ac];refine Aa 6 (.pointer (some ⟨b1,o1+k,none⟩)) ?_;simp only[Ac];refine Aa 7 (.int .i64 X) ?_;simp only[Ac];refine Aa 8 (.pointer (some ⟨G,0,none⟩)) ?_;simp only[Ac];refine Aa 9 (.pointer (some ⟨b,0,none⟩)) ?_;simp only[Ac];refine Aa 10 (.int .i64 t) ?_;simp only[Ac];refine Aa 11 (.pointer (some ⟨G,0,none⟩)) ?_;simp only[Ac];refine Aa 12 (.pointer (some ⟨b,0,none⟩)) ?_;simp only[Ac];refine Aa 13 (.slice (some ⟨b2,o2,none⟩) n c2) ?_;simp only[Ac];refine Aa 14 (.int .i64 (k:Int)) ?_;simp only[Ac];refine Aa 15 (.pointer (some ⟨b2,o2+k,none⟩)) ?_;simp only[Ac];refine Aa 16 (.int .i64 Y) ?_;simp only[Ac];refine Aa 17 (.slice (some ⟨b1,o1,none⟩) n c1) ?_;simp only[Ac];refine Aa 18 (.int .i64 (k:Int)) ?_;simp only[Ac];refine Aa 19 (.pointer (some ⟨b1,o1+k,none⟩)) ?_;simp only[Ac];refine Aa 20 (.int .i64 X) ?_;simp only[Ac];refine Ab 21 fun K' hK'=>?_;go_simp;refine (HSU.out _ HBD.out).mono ?_;rintro e w3 ⟨rfl,hw⟩;have hw1:=hw.symm;subst hw1;clear hw;refine hK'.out _ _ (HSB.out _ HBD.out) (fun hHeld=>?_);clear hK' K';refine Ab 22 fun K' hK'=>?_;go_simp;refine (HMU.out _ HBD.out).mono ?_;rintro e w3 ⟨rfl,hw⟩;have hw1:=hw.symm;subst hw1;clear hw;refine hK'.out _ _ (HSB.out _ HBD.out) (fun hHeld=>?_);clear hK' K';refine Ab 23 fun K' hK'=>?_;go_simp;refine (HAD.out _ HBD.out).mono ?_;rintro e w3 ⟨rfl,hw⟩;have hw1:=hw.symm;subst hw1;clear hw;have c1:=HAB.out.cell hlt;have y1:=HAB.out.frozen k;generalize fll F (fun _=>0) k k=y0 at *;refine hK'.out _ _ (HSB.out _ HBD.out) (fun hHeld=>?_);clear hK' K';refine Aa 24 (.pointer (some ⟨O,k,none⟩)) ?_;simp only[Ac];refine Ab 25 fun K' hK'=>?_;go_simp;refine hK'.out _ _ (HS4.out) (fun hHeld=>?_);clear hK' K';refine wpAnyH_done (by kernel_rfl) ?_ _;go_wp2_with fail;go_roundw
   case rel=>exact⟨k+1,by omega,by go_num,HA2.out⟩
   case measure=>simp[intOf];omega
  ·obtain rfl:n=k:=by omega
   have hlt2:¬ (n:Int)<(n:Int):=by omega
   have HE:Hid (ArrI wr O 3 n F/\Below w.heap.size w wr):=⟨hI.out.1.congr (fun j hj=>zV hj),HB0.out.trans (hI.out.2.mono HB0.out.size)⟩
   clear hI c0;go_wp2_with fail;go_ret;exact⟨O,rfl,HOW.out,HE.out⟩
theorem Gz (p b n c1 c2:Nat) (a1 a2:Option Addr) (t fs:List Int) (w:World) (hIT:InT p b w) (hn:n<=6) (ht:t.length=2 ^ n) (hk:fs.length=n) (ft:Fits t) (ff:Fits fs) (lt:Lst w.heap.size w a1 c1 t) (lf:RowB w.heap.size w a2 fs) :
  Calls Tryz.prog 26 #[.pointer (some ⟨b,0,none⟩),.slice a1 t.length c1,.slice a2 fs.length c2] w fun e w'=>e=.returned (.int .i64 (Sum.ext (zat t) (zat fs) n % (p:Int)))/\Below w.heap.size w w':=by
 have hlen:=El (p:=p) (zat fs) ht n (Nat.le_refl _);have hff:=Gn hIT.h3 hIT.hm (zat fs) ft n
 have HV:Hid (zat (fxs p t (zat fs) n) 0 % (p:Int)=Sum.ext (zat t) (zat fs) n % (p:Int)):=by have h:=Qk (p:=p) (zat fs) ht n (Nat.le_refl _);rw[Nat.sub_self,Sum.ext_zero] at h;exact (jK h).symm
 have HX:=hid (Lt p b n c1 c2 a1 a2 t fs w hIT hn ht (by omega) ft ff lt lf);rw[hk] at HX ⊢;rw[Nat.sub_self] at hlen
 have HO:Hid (∀ W,Below w.heap.size w W->Calls Tryz.prog 19 #[.pointer (some ⟨b,0,none⟩),.int .i64 (zat (fxs p t (zat fs) n) 0)] W fun e w'=>e=.returned (.int .i64 (Sum.ext (zat t) (zat fs) n % (p:Int)))/\w'=W):=fun W hW=>by rw[<- HV.out];have:=hff.all 0;exact zZ p b _ W hIT.h3 hIT.hm (hIT.below hW).cell this.1 this.2
 have HLL:=hid hlen;generalize Sum.ext (zat t) (zat fs) n % (p:Int)=V at *;generalize t.length=nt at *;clear hIT ft ff lt lf hff hlen HV ht;go_enter Tryz.func26,Tryz.ntmps26;go_wp2_with fail;refine HX.out.mono ?_;rintro e w1 ⟨a',c',rfl,hl1,_,hb1⟩;obtain⟨b0,o0,rfl,_,hx0⟩:=hl1.row 0 (by rw[HLL.out];exact Nat.one_pos);rw[Nat.add_zero] at hx0;have HOX:=hid (HO.out w1 hb1);have HB1:=hid hb1;rw[HLL.out];generalize zat (fxs p t (zat fs) n) 0=x0 at *;clear hl1 hb1 HX HO HLL;go_wp2_with fail;refine HOX.out.mono ?_;rintro e w2 ⟨rfl,hw⟩;have hw1:=hw.symm;subst hw1;clear hw;go_wp2_with fail;go_ret;exact⟨rfl,HB1.out⟩
def enp (q:Nat) (f:Nat->Int):Nat->Int
 | 0=>0
 | k+1=>(enp q f k+f k) % (q:Int)
theorem aEs (f:Nat->Int):enp q f 2=(f 0+f 1) % (q:Int):=by
 show (((0+f 0) % (q:Int))+f 1) % (q:Int)=_;rw[Int.zero_add,Int.emod_add_emod]
def enf (q:Nat) (gs:List GatZ) (z x y line:List Int) (m:Nat) (k:Nat):Int:=wrz q gs (k:Int) z x y*jnz q (k:Int) (zat line 0) (zat line (min 1 m)) % (q:Int)
theorem aF0 (q:Nat) (gs:List GatZ) (z x y line:List Int) (m:Nat):enp q (enf q gs z x y line m) 2=enz q gs z x y line m:=aEs _
theorem aCH (p b m cg cz cx cy cl:Nat) (ag az ax ay al:Option Addr) (gs:List GatZ) (z x y line:List Int) (w:World) (h3:3<=p) (hm31:p<=2147483647) (hp:w.cell? ⟨b,0,none⟩=some (.int .i64 p)) (hn:gs.length<=64) (hg:LstG w.heap.size w ag cg gs) (ho:∀ k,k<gs.length->0<=(gat gs k).a/\0<=(gat gs k).b) (hz:z.length<=60) (hx:x.length<=60) (hy:y.length<=60) (fz:Fits z) (fx:Fits x) (fy:Fits y) (fl:Fits line) (rz:RowB w.heap.size w az z) (rx:RowB w.heap.size w ax x) (ry:RowB w.heap.size w ay y) (rl:RowB w.heap.size w al line) (hll:line.length=m+1) (hm6:m<=60) :
  Calls Tryz.prog 66 #[.agg #[.pointer (some ⟨b,0,none⟩),.slice ag gs.length cg,.int .i64 (m:Int)],.slice az z.length cz,.slice ax x.length cx,.slice ay y.length cy,.slice al line.length cl] w fun e w'=>e=.returned (.int .i64 (enz p gs z x y line m))/\Below w.heap.size w w':=by
 obtain⟨W0,hW0⟩:=exE (w.alloc (.cells #[.pointer (some ⟨b,0,none⟩),.slice ag gs.length cg,.int .i64 (m:Int)] 84));obtain⟨hb0,hs0,hz0⟩:=qV hW0;obtain⟨G,hG⟩:=exE (w.heap.size);rw[<- hG] at hs0;have HGE:=hid hG;have HB0:=hid hb0;have HGL:Hid (G<W0.heap.size):=by unfold Hid;omega
 have HC:Hid (∀ W,Below W0.heap.size W0 W->W.cell? ⟨G,0,none⟩=some (.pointer (some ⟨b,0,none⟩))/\W.cell? ⟨G,1,none⟩=some (.slice ag gs.length cg)/\W.cell? ⟨G,2,none⟩=some (.int .i64 (m:Int))/\W.cell? ⟨b,0,none⟩=some (.int .i64 p)):=fun W hW=>by have e:=(hW.block G HGL.out).trans hs0;have hb:=HB0.out.trans (hW.mono HB0.out.size);exact⟨by simp[World.cell?,e],by simp[World.cell?,e],by simp[World.cell?,e],(hb.cell (p:=⟨b,0,none⟩) (qK hp)).trans hp⟩
 obtain⟨bl,ol,rfl,hbl,hxa⟩:=rl 0 (by omega);obtain⟨bl2,ol2,e2,_,hxb⟩:=rl (min 1 m) (by omega);cases e2;rw[Nat.add_zero] at hxa;obtain⟨mm,hmm⟩:=exE (min 1 m);obtain⟨F,hF⟩:=exE (enf p gs z x y line m);obtain⟨P,hP⟩:=exE (enp p F);have HPE:Hid (enz p gs z x y line m=P 2):=by unfold Hid;rw[hP,hF,aF0]
 have HP0:Hid (P 0=0):=by unfold Hid;rw[hP];rfl
 have HPS:Hid (∀ k,P (k+1)=(P k+F k) % (p:Int)):=fun k=>by rw[hP];rfl
 have HPB:Hid (∀ k,k<=2->Bz (P k)):=fun k _=>by
  rcases k with _ | k
  ·rw[HP0.out];exact⟨by omega,by omega⟩
  ·rw[HPS.out];have:=qQ (P k+F k) p h3;exact⟨by omega,by omega⟩
 rw[HPE.out]
 have HFB:Hid (∀ k,Bz (F k)):=fun k=>by rw[hF];have:=qQ (wrz p gs (k:Int) z x y*jnz p (k:Int) (zat line 0) (zat line (min 1 m))) p h3;exact⟨by unfold enf;omega,by unfold enf;omega⟩
 have HBW:Hid (∀ W,Below W0.heap.size W0 W->Below w.heap.size w W):=fun W hW=>HB0.out.trans (hW.mono HB0.out.size);obtain⟨A,hA⟩:=exE (zat line 0);obtain⟨B,hB⟩:=exE (zat line mm);have hbA:Bz A:=by rw[hA];exact fl.all 0
 have hbB:Bz B:=by rw[hB];exact fl.all _
 have HWI0:Hid (∀ (W:World) (k:Nat),k<2->Below W0.heap.size W0 W->Calls Tryz.prog 112 #[.agg #[.pointer (some ⟨b,0,none⟩),.slice ag gs.length cg,.int .i64 (m:Int)],.int .i64 (k:Int),.slice az z.length cz,.slice ax x.length cx,.slice ay y.length cy] W fun e w'=>e=.returned (.int .i64 (wrz p gs (k:Int) z x y))/\Below W.heap.size W w'):=fun W k _ hW=>by have hb:=HBW.out W hW;exact aCB p b cg cz cx cy _ (k:Int) ag az ax ay gs z x y W h3 hm31 (HC.out W hW).2.2.2 hn (hg.step hb) ho hz hx hy fz fx fy ((rz.below hb).mono hb.size) ((rx.below hb).mono hb.size) ((ry.below hb).mono hb.size)
 have HJO0:Hid (∀ (W:World) (k:Nat),k<2->Below W0.heap.size W0 W->Calls Tryz.prog 106 #[.agg #[.pointer (some ⟨b,0,none⟩),.slice ag gs.length cg,.int .i64 (m:Int)],.int .i64 (k:Int),.int .i64 A,.int .i64 B] W fun e w'=>e=.returned (.int .i64 (jnz p (k:Int) A B))/\Below W.heap.size W w'):=fun W k _ hW=>Dw p b _ _ (k:Int) A B W h3 hm31 (HC.out W hW).2.2.2 hbA.1 hbA.2 hbB.1 hbB.2;have HWB:Hid (∀ k:Nat,0<=wrz p gs (k:Int) z x y/\wrz p gs (k:Int) z x y<p):=fun k=>qQ _ p h3;have HJB:Hid (∀ k:Nat,0<=jnz p (k:Int) A B/\jnz p (k:Int) A B<p):=fun k=>Ez p _ _ _ h3
 have HMU0:Hid (∀ (W:World) (k:Nat),Below W0.heap.size W0 W->Calls Tryz.prog 78 #[.pointer (some ⟨b,0,none⟩),.int .i64 (wrz p gs (k:Int) z x y),.int .i64 (jnz p (k:Int) A B)] W fun e w'=>e=.returned (.int .i64 (F k))/\w'=W):=fun W k hW=>by have h1:=HWB.out k;have h2:=HJB.out k;have h:=kK p b (wrz p gs (k:Int) z x y) (jnz p (k:Int) A B) W h3 hm31 (HC.out W hW).2.2.2 (by omega) (by omega) (by omega) (by omega);rw[hF];rw[hA,hB,hmm] at h ⊢;exact h
 have HAD0:Hid (∀ (W:World) (k:Nat) (s:Int),Below W0.heap.size W0 W->s=P k->Calls Tryz.prog 64 #[.pointer (some ⟨b,0,none⟩),.int .i64 s,.int .i64 (F k)] W fun e w'=>e=.returned (.int .i64 (P (k+1)))/\w'=W):=fun W k s hW hs=>by
  have h1:Bz (P k):=by
   rcases k with _ | k
   ·rw[HP0.out];exact⟨by omega,by omega⟩
   ·rw[HPS.out];have:=qQ (P k+F k) p h3;exact⟨by omega,by omega⟩
  have h2:=HFB.out k;have h:=yV p b (P k) (F k) W h3 hm31 (HC.out W hW).2.2.2 h1.1 h1.2 h2.1 h2.2;rw[hs,HPS.out];exact h
 have hcl:W0.cell? ⟨bl,ol,none⟩=some (.int .i64 A):=by rw[hA];exact (HB0.out.cell (p:=⟨bl,ol,none⟩) hbl).trans hxa
 have hcm:W0.cell? ⟨bl,ol+mm,none⟩=some (.int .i64 B):=by rw[hB,hmm];exact (HB0.out.cell (p:=⟨bl,ol+min 1 m,none⟩) hbl).trans hxb
 have hbl0:bl<W0.heap.size:=by have:=HB0.out.size;omega
 obtain⟨ng,hng⟩:=exE (gs.length);rw[<- hng] at HWI0 HJO0 HC ⊢;have HSB2:Hid (∀ W,Below W0.heap.size W0 W->W.cell? ⟨G,0,none⟩=some (.pointer (some ⟨b,0,none⟩))/\W.cell? ⟨G,1,none⟩=some (.slice ag ng cg)/\W.cell? ⟨G,2,none⟩=some (.int .i64 (m:Int))):=fun W hW=>⟨(HC.out W hW).1,(HC.out W hW).2.1,(HC.out W hW).2.2.1⟩
 have HSB:Hid (∀ W,Below W0.heap.size W0 W->(W.cell? ⟨G,0,none⟩=some (.pointer (some ⟨b,0,none⟩))/\W.cell? ⟨G,1,none⟩=some (.slice ag ng cg)/\W.cell? ⟨G,2,none⟩=some (.int .i64 (m:Int)))/\W.cell? ⟨bl,ol,none⟩=some (.int .i64 A)/\W.cell? ⟨bl,ol+mm,none⟩=some (.int .i64 B)):=fun W hW=>⟨HSB2.out W hW,(hW.cell (p:=⟨bl,ol,none⟩) hbl0).trans hcl,(hW.cell (p:=⟨bl,ol+mm,none⟩) hbl0).trans hcm⟩
 have HBD:Hid (Below W0.heap.size W0 W0.drew):=(Below.refl _ _).drew;have HMI:Hid (min (1:Int) (m:Int)=(mm:Int)):=by unfold Hid;rw[hmm];omega
 have hmml:mm<line.length:=by omega
 have hmz:(0:Int)<=(mm:Int):=by omega
 obtain⟨nl,hnl⟩:=exE (line.length);rw[<- hnl] at hll hmml ⊢;have hnl0:¬ nl=0:=by omega
 have hnlm:(mm:Int)<(nl:Int):=by omega
 obtain⟨WZ,hWZ⟩:∃ WZ:Nat->Int,WZ=fun k:Nat=>wrz p gs (k:Int) z x y:=⟨_,rfl⟩
 obtain⟨JZ,hJZ⟩:∃ JZ:Nat->Int,JZ=fun k:Nat=>jnz p (k:Int) A B:=⟨_,rfl⟩
 have HWI1:Hid (∀ (W:World) (k:Nat),k<2->Below W0.heap.size W0 W->Calls Tryz.prog 112 #[.agg #[.pointer (some ⟨b,0,none⟩),.slice ag ng cg,.int .i64 (m:Int)],.int .i64 (k:Int),.slice az z.length cz,.slice ax x.length cx,.slice ay y.length cy] W fun e w'=>e=.returned (.int .i64 (WZ k))/\Below W.heap.size W w'):=by rw[hWZ];exact HWI0
 have HJO1:Hid (∀ (W:World) (k:Nat),k<2->Below W0.heap.size W0 W->Calls Tryz.prog 106 #[.agg #[.pointer (some ⟨b,0,none⟩),.slice ag ng cg,.int .i64 (m:Int)],.int .i64 (k:Int),.int .i64 A,.int .i64 B] W fun e w'=>e=.returned (.int .i64 (JZ k))/\Below W.heap.size W w'):=by rw[hJZ];exact HJO0
 have HMU1:Hid (∀ (W:World) (k:Nat),Below W0.heap.size W0 W->Calls Tryz.prog 78 #[.pointer (some ⟨b,0,none⟩),.int .i64 (WZ k),.int .i64 (JZ k)] W fun e w'=>e=.returned (.int .i64 (F k))/\w'=W):=by rw[hWZ,hJZ];exact HMU0
 obtain⟨nz,hnz⟩:=exE (z.length);obtain⟨nx,hnx⟩:=exE (x.length);obtain⟨ny,hny⟩:=exE (y.length);rw[<- hnz,<- hnx,<- hny] at HWI1 ⊢;rw[<- hng] at hW0;clear HWI0 HJO0 HMU0 hWZ hJZ HWB HJB HPE HPB HFB hP hF hA hB hmm hbA hbB hcl hcm hbl hbl0 hxa hxb rz rx ry rl hg ho hp fz fx fy fl hnz hnx hny hs0 hb0 hz0 hng hnl hx hy hz hn hG hmml hll;go_enter Tryz.func66,Tryz.ntmps66;go_wp2_with fail;rw[<- HGE.out,<- hW0];clear hW0;refine wp_region_held_drew (S:=fun W=>(W.cell? ⟨G,0,none⟩=some (.pointer (some ⟨b,0,none⟩))/\W.cell? ⟨G,1,none⟩=some (.slice ag ng cg)/\W.cell? ⟨G,2,none⟩=some (.int .i64 (m:Int)))/\W.cell? ⟨bl,ol,none⟩=some (.int .i64 A)/\W.cell? ⟨bl,ol+mm,none⟩=some (.int .i64 B)) (by kernel_rfl) (HSB.out _ HBD.out) (fun hHeld=>?_);refine Aa 0 (.slice (some ⟨bl,ol,none⟩) nl cl) ?_;simp only[Ac];refine Aa 1 (.pointer (some ⟨bl,ol,none⟩)) ?_;simp only[Ac];refine Aa 2 (.int .i64 A) ?_;simp only[Ac];refine Aa 3 (.slice (some ⟨bl,ol,none⟩) nl cl) ?_;simp only[Ac];refine Aa 4 (.pointer (some ⟨G,2,none⟩)) ?_;simp only[Ac];refine Aa 5 (.int .i64 (m:Int)) ?_;simp only[Ac];refine tkU 6 (.int .i64 (mm:Int)) rfl (fun W hC=>by rw[<- HMI.out];go_simp) hHeld ?_;simp only[Ac];refine Aa 7 (.pointer (some ⟨bl,ol+mm,none⟩)) ?_;simp only[Ac];refine Aa 8 (.int .i64 B) ?_;simp only[Ac];refine Aa 9 (.int .i64 A) ?_;simp only[Ac];refine Aa 10 (.int .i64 B) ?_;simp only[Ac];refine wpAnyH_done (by kernel_rfl) ?_ _;have HBX:=HBD;generalize W0.drew=WX at *;go_wp2_with fail;go_loopw [13,14,24] (fun sv _ iv wr=>∃ k:Nat,k<=2/\iv=.int .i64 (k:Int)/\∃ s:Int,sv=.int .i64 s/\Hid (s=P k)/\Hid (Below W0.heap.size W0 wr)) (fun _ _ iv _=>2-(intOf iv).toNat)
 case atStart=>exact⟨0,by omega,rfl,0,rfl,HP0.out.symm,HBX.out⟩
 case round =>
  obtain⟨k,hk,rfl,s,rfl,hs,hI⟩:=hrel;by_cases hlt:k<2
  ·have hlt2:(k:Int)<2:=by omega
   have hk2:=hlt;have hks:IntKind.i64.wrap ((k:Int)+1)=(k:Int)+1:=by rw[IntKind.wrap_i64];omega
   have HWI:Hid (∀ (W:World) (k:Nat),k<2->Below wr.heap.size wr W->Calls Tryz.prog 112 #[.agg #[.pointer (some ⟨b,0,none⟩),.slice ag ng cg,.int .i64 (m:Int)],.int .i64 (k:Int),.slice az nz cz,.slice ax nx cx,.slice ay ny cy] W fun e w'=>e=.returned (.int .i64 (WZ k))/\Below W.heap.size W w'):=fun W k h1 h2=>HWI1.out W k h1 (hI.out.trans (h2.mono hI.out.size));have HJO:Hid (∀ (W:World) (k:Nat),k<2->Below wr.heap.size wr W->Calls Tryz.prog 106 #[.agg #[.pointer (some ⟨b,0,none⟩),.slice ag ng cg,.int .i64 (m:Int)],.int .i64 (k:Int),.int .i64 A,.int .i64 B] W fun e w'=>e=.returned (.int .i64 (JZ k))/\Below W.heap.size W w'):=fun W k h1 h2=>HJO1.out W k h1 (hI.out.trans (h2.mono hI.out.size));have HMU:Hid (∀ (W:World) (k:Nat),Below wr.heap.size wr W->Calls Tryz.prog 78 #[.pointer (some ⟨b,0,none⟩),.int .i64 (WZ k),.int .i64 (JZ k)] W fun e w'=>e=.returned (.int .i64 (F k))/\w'=W):=fun W k h2=>HMU1.out W k (hI.out.trans (h2.mono hI.out.size));have HAD:Hid (∀ (W:World) (k:Nat) (s:Int),Below wr.heap.size wr W->s=P k->Calls Tryz.prog 64 #[.pointer (some ⟨b,0,none⟩),.int .i64 s,.int .i64 (F k)] W fun e w'=>e=.returned (.int .i64 (P (k+1)))/\w'=W):=fun W k s h2 h3=>HAD0.out W k s (hI.out.trans (h2.mono hI.out.size)) h3;have HSB3:Hid (∀ W,Below wr.heap.size wr W->W.cell? ⟨G,0,none⟩=some (.pointer (some ⟨b,0,none⟩))/\W.cell? ⟨G,1,none⟩=some (.slice ag ng cg)/\W.cell? ⟨G,2,none⟩=some (.int .i64 (m:Int))):=fun W hW=>HSB2.out W (hI.out.trans (hW.mono hI.out.size));have HBO:Hid (∀ W,Below wr.heap.size wr W->Below W0.heap.size W0 W):=fun W hW=>hI.out.trans (hW.mono hI.out.size);have HBD:Hid (Below wr.heap.size wr wr.drew):=(Below.refl _ _).drew;clear hI HSB HBX;go_wp2_with fail;refine wp_region_held_drew (S:=fun W=>(W.cell? ⟨G,0,none⟩=some (.pointer (some ⟨b,0,none⟩))/\W.cell? ⟨G,1,none⟩=some (.slice ag ng cg)/\W.cell? ⟨G,2,none⟩=some (.int .i64 (m:Int)))) (by kernel_rfl) (HSB3.out _ HBD.out) (fun hHeld=>?_);refine Aa 0 (.pointer (some ⟨G,0,none⟩)) ?_;simp only[Ac];refine Aa 1 (.pointer (some ⟨b,0,none⟩)) ?_;simp only[Ac];refine Aa 2 (.int .i64 s) ?_;simp only[Ac];refine Aa 3 (.pointer (some ⟨G,0,none⟩)) ?_;simp only[Ac];refine Aa 4 (.pointer (some ⟨b,0,none⟩)) ?_;simp only[Ac];refine Aa 5 (.agg #[.pointer (some ⟨b,0,none⟩),.slice ag ng cg,.int .i64 (m:Int)]) ?_;simp only[Ac];refine Aa 6 (.int .i64 (k:Int)) ?_;simp only[Ac];refine Aa 7 (.slice az nz cz) ?_;simp only[Ac];refine Aa 8 (.slice ax nx cx) ?_;simp only[Ac];refine Aa 9 (.slice ay ny cy) ?_;simp only[Ac];refine Aa 11 (.agg #[.pointer (some ⟨b,0,none⟩),.slice ag ng cg,.int .i64 (m:Int)]) ?_;simp only[Ac];refine Aa 12 (.int .i64 (k:Int)) ?_;simp only[Ac];refine Aa 13 (.int .i64 A) ?_;simp only[Ac];refine Aa 14 (.int .i64 B) ?_;simp only[Ac];refine Ab 10 fun K' hK'=>?_;go_simp;refine (HWI.out _ k hk2 HBD.out).mono ?_;rintro e w3 ⟨rfl,hb3⟩;have HB3:Hid (Below wr.heap.size wr w3):=HBD.out.trans hb3;refine hK'.out _ _ (HSB3.out _ HB3.out) (fun hHeld=>?_);clear hK' K';refine Ab 15 fun K' hK'=>?_;go_simp;refine (HJO.out _ k hk2 HB3.out).mono ?_;rintro e w4 ⟨rfl,hb4⟩;have HB4:Hid (Below wr.heap.size wr w4):=HB3.out.trans (hb4.mono HB3.out.size);refine hK'.out _ _ (HSB3.out _ HB4.out) (fun hHeld=>?_);clear hK' K';refine Ab 16 fun K' hK'=>?_;go_simp;refine (HMU.out _ k HB4.out).mono ?_;rintro e w5 ⟨rfl,hw⟩;have hw1:=hw.symm;subst hw1;clear hw;refine hK'.out _ _ (HSB3.out _ HB4.out) (fun hHeld=>?_);clear hK' K';refine Ab 17 fun K' hK'=>?_;go_simp;refine (HAD.out _ k s HB4.out hs.out).mono ?_;rintro e w5 ⟨rfl,hw⟩;have hw1:=hw.symm;subst hw1;clear hw;refine hK'.out _ _ (HSB3.out _ HB4.out) (fun hHeld=>?_);clear hK' K';refine Aa 18 (.int .i64 (P (k+1))) ?_;simp only[Ac];refine wpAnyH_done (by kernel_rfl) ?_ _;have HBF:=hid (HBO.out _ HB4.out);go_wp2_with fail;go_roundw
   case rel=>exact⟨k+1,by omega,by go_num,P (k+1),rfl,rfl,HBF.out⟩
   case measure=>simp[intOf];omega
  ·obtain rfl:k=2:=by omega
   have HE:Hid (Below w.heap.size w wr):=HBW.out _ hI.out;have HS:=hs;clear hI hs HSB HBX;go_wp2_with fail;go_ret;exact⟨by rw[<- HS.out];rfl,HE.out⟩
end Go.Proofs.YtkdndfbfmchcpaaGreatDoor
