
import Derived.Test.YtkdndfbfmchcpaaGreatDoorTgAZ
import Derived.Test.YtkdndfbfmchcpaaGreatDoorTgAW
set_option maxRecDepth 1000000
set_option maxHeartbeats 8000000
namespace Go.Proofs.YtkdndfbfmchcpaaGreatDoor
variable {M N q st:Nat}{r:Int}{rows:List (List Int)}
open Go.RowKit
def agB (p N:Nat) (r s:Int) (said ps:List Int) (rows:List (List Int)) (A:List Int->Int):Bool:=decide (∀ k,k<ps.length->evz p said (Dom.pt p s r (zat ps k % (N:Int)).toNat)=A (rat rows k))
theorem My (p b d N F c2 cp cr:Nat) (caps:Array Value) (A:List Int->Int) (r s:Int) (a2 ap ar:Option Addr) (y1 y2 y3:Value) (said ps:List Int) (rows:List (List Int)) (w:World) (D:DO w p b d N r s) (hsl:said.length<=281474976710656) (hps:ps.length<=281474976710656) (hpr:ps.length<=rows.length) (hfs:Fits said)
  (hl2:RowB w.heap.size w a2 said) (hp:RowB w.heap.size w ap ps) (hr:LstR w.heap.size w ar cr rows)
  (hcf:∀ (args:Array Value) (w1:World),(callFunc F args).run Tryz.prog w1=.ok (.enter F args) w1)
  (HQ:∀ (W:World) (k:Nat) (ak:Option Addr) (ck:Nat),Below w.heap.size w W->k<rows.length->Lst W.heap.size W ak ck (rat rows k)->Calls Tryz.prog F (#[.slice ak (rat rows k).length ck]++caps) W fun e w'=>e=.returned (.int .i64 (A (rat rows k)))/\Below W.heap.size W w') :
  Calls Tryz.prog 42 #[.agg #[.pointer (some ⟨b,0,none⟩),.pointer (some ⟨d,0,none⟩),y1,y2],.slice a2 said.length c2,.func (.func F) #[] caps,.agg #[.slice ap ps.length cp,.slice ar rows.length cr,y3]] w fun e w'=>e=.returned (.bool (agB p N r s said ps rows A))/\Below w.heap.size w w':=by
 obtain⟨W1,hW1⟩:=exE ((w.alloc (.cells #[.pointer (some ⟨b,0,none⟩),.pointer (some ⟨d,0,none⟩),y1,y2] 97)).alloc (.cells #[.slice ap ps.length cp,.slice ar rows.length cr,y3] 51));have hb1:Below w.heap.size w W1:=by rw[hW1];exact ((Below.refl _ _).alloc (Nat.le_refl _) _).alloc (by simp) _
 have hs1:W1.heap[w.heap.size]?=some (.cells #[.pointer (some ⟨b,0,none⟩),.pointer (some ⟨d,0,none⟩),y1,y2] 97 (0,0)):=by rw[hW1];have:=heap_alloc_new w (.cells #[.pointer (some ⟨b,0,none⟩),.pointer (some ⟨d,0,none⟩),y1,y2] 97);have hb:=(Below.refl (w.alloc (.cells #[.pointer (some ⟨b,0,none⟩),.pointer (some ⟨d,0,none⟩),y1,y2] 97)).heap.size (w.alloc (.cells #[.pointer (some ⟨b,0,none⟩),.pointer (some ⟨d,0,none⟩),y1,y2] 97))).alloc (Nat.le_refl _) (.cells #[.slice ap ps.length cp,.slice ar rows.length cr,y3] 51);exact (hb.block _ (by simp)).trans this
 have hs2:W1.heap[w.heap.size+1]?=some (.cells #[.slice ap ps.length cp,.slice ar rows.length cr,y3] 51 (0,0)):=by rw[hW1];have:=heap_alloc_new (w.alloc (.cells #[.pointer (some ⟨b,0,none⟩),.pointer (some ⟨d,0,none⟩),y1,y2] 97)) (.cells #[.slice ap ps.length cp,.slice ar rows.length cr,y3] 51);simpa using this
 obtain⟨G,hG⟩:=exE (w.heap.size);obtain⟨P,hPP⟩:=exE (w.heap.size+1);rw[<- hG] at hs1;rw[<- hPP] at hs2;have h3:=D.h3;have h4:=D.hm;have HT:Hid (∀ W,Below W1.heap.size W1 W->Below w.heap.size w W):=fun W hW=>hb1.trans (hW.mono hb1.size)
 have HK:Hid (∀ W,Below W1.heap.size W1 W->W.cell? ⟨G,0,none⟩=some (.pointer (some ⟨b,0,none⟩))/\W.cell? ⟨G,1,none⟩=some (.pointer (some ⟨d,0,none⟩))/\W.cell? ⟨P,1,none⟩=some (.slice ar rows.length cr)):=fun W hW=>by have e1:=(hW.block G (Array.getElem?_eq_some_iff.1 hs1).1).trans hs1;have e2:=(hW.block P (Array.getElem?_eq_some_iff.1 hs2).1).trans hs2;refine⟨?_,?_,?_⟩ <;> simp[World.cell?,e1,e2]
 have p0:W1.cell? ⟨P,0,none⟩=some (.slice ap ps.length cp):=by simp[World.cell?,hs2]
 have HPT:Hid (∀ (W:World) (i:Int),Below W1.heap.size W1 W->Calls Tryz.prog 92 #[.pointer (some ⟨d,0,none⟩),.int .i64 i] W fun e w'=>e=.returned (.int .i64 (Dom.pt p s r (i % (N:Int)).toNat))/\Below W.heap.size W w'):=fun W i hW=>by have D2:=D.step (HT.out W hW);obtain⟨kk,hk1,hk2⟩:=D2.hk;have hda:=D2.da;rw[hk2] at hda ⊢;refine (aAw p b d kk r s i W D2.pr D2.h3 D2.hm D2.hp hda hk1 D2.hr0 D2.hr1 D2.hs0 D2.hs1).mono ?_;rintro e w' ⟨rfl,rfl⟩;exact⟨rfl,(Below.refl _ _).drew⟩
 have HEV:Hid (∀ (W:World) (x:Int),Below W1.heap.size W1 W->0<=x->x<p->Calls Tryz.prog 82 #[.pointer (some ⟨b,0,none⟩),.slice a2 said.length c2,.int .i64 x] W fun e w'=>e=.returned (.int .i64 (evz p said x))/\Below W.heap.size W w'):=fun W x hW hx0 hx1=>by have hh:=HT.out W hW;refine (Fz p b c2 (·<w.heap.size) a2 said x W h3 h4 (D.step hh).hp hsl hfs (by omega) (by omega) (hl2.below hh)).mono ?_;rintro e w' ⟨rfl,n1,rfl⟩;exact⟨rfl,below_drewN (Below.refl _ _) n1⟩
 have HRO:Hid (∀ W,Below W1.heap.size W1 W->LstR W.heap.size W ar cr rows):=fun W hW=>(hr.below (HT.out W hW)).mono (HT.out W hW).size;have HPS:Hid (∀ W,Below W1.heap.size W1 W->RowB W.heap.size W ap ps):=fun W hW=>(hp.below (HT.out W hW)).mono (HT.out W hW).size;have HQQ:Hid (∀ (W:World) (k:Nat) (ak:Option Addr) (ck:Nat),Below W1.heap.size W1 W->k<rows.length->Lst W.heap.size W ak ck (rat rows k)->Calls Tryz.prog F (#[.slice ak (rat rows k).length ck]++caps) W fun e w'=>e=.returned (.int .i64 (A (rat rows k)))/\Below W.heap.size W w'):=fun W k ak ck hW hk hl=>HQ W k ak ck (HT.out W hW) hk hl;obtain⟨R,hR⟩:=exE (agB p N r s said ps rows A);rw[<- hR];have HRT:Hid ((∀ k,k<ps.length->evz p said (Dom.pt p s r (zat ps k % (N:Int)).toNat)=A (rat rows k))->R=true):=fun h=>by rw[hR];exact decide_eq_true h
 have HRF:Hid (∀ k,k<ps.length->¬ evz p said (Dom.pt p s r (zat ps k % (N:Int)).toNat)=A (rat rows k)->R=false):=fun k hk h=>by rw[hR];exact decide_eq_false (fun g=>h (g k hk))
 have HPB:Hid (∀ k:Nat,0<=Dom.pt p s r k/\Dom.pt p s r k<p):=fun k=>qQ (s*r ^ k) p h3;obtain⟨n3,hn3⟩:=exE (rows.length);obtain⟨n2,hn2⟩:=exE (ps.length);have HN3:=hid hn3;have HN2:=hid hn2;simp only[<- hn3] at HK HQQ hpr hW1 ⊢;simp only[<- hn2] at HRT HRF hpr hps p0 hW1 ⊢;generalize said.length=n1 at *;have HW1:=hid hW1;have HG:=hid hG;have HPP:=hid hPP;have hq2:(n2:Int)<=(n3:Int):=by omega
 have HHQ:Hid True:=trivial;clear D hfs hl2 hp hr HQ hs1 hs2 hb1 hR hn3 hn2 hW1 hG hPP;go_enter Tryz.func42,Tryz.ntmps42;go_wp2_with fail;rw[<- HPP.out,<- HG.out,<- HW1.out];clear HW1 HG HPP p0;go_loopw [9,10,14] (fun _ _ iv wr=>∃ k:Nat,k<=n2/\iv=.int .i64 (k:Int)/\Hid ((∀ j,j<k->evz p said (Dom.pt p s r (zat ps j % (N:Int)).toNat)=A (rat rows j))/\Below W1.heap.size W1 wr)) (fun _ _ iv _=>n2-(intOf iv).toNat)
 case atStart=>exact⟨0,by omega,rfl,fun j hj=>by omega,Below.refl _ _⟩
 case round =>
  obtain⟨k,hk,rfl,hI⟩:=hrel;by_cases hlt:k<n2
  ·have hlt2:(k:Int)<(n2:Int):=by omega
   have hlt3:(k:Int)<(n3:Int):=by omega
   have hks:IntKind.i64.wrap ((k:Int)+1)=(k:Int)+1:=by rw[IntKind.wrap_i64];omega
   obtain⟨bp,op,rfl,hbp,hxp⟩:=HPS.out wr hI.out.2 k (by rw[<- HN2.out];exact hlt);obtain⟨br,orr,ak,ck,rfl,hbr,hcr,hlk⟩:=(HRO.out wr hI.out.2).row k (by rw[<- HN3.out];omega);have HB:=hid hI.out.2
   have HKK:Hid (∀ W,Below wr.heap.size wr W->W.cell? ⟨G,0,none⟩=some (.pointer (some ⟨b,0,none⟩))/\W.cell? ⟨G,1,none⟩=some (.pointer (some ⟨d,0,none⟩))/\W.cell? ⟨P,1,none⟩=some (.slice (some ⟨br,orr,none⟩) n3 cr)/\W.cell? ⟨br,orr+k,none⟩=some (.slice ak (rat rows k).length ck)):=fun W hW=>by obtain⟨q1,q2,q3⟩:=HK.out W (HB.out.trans (hW.mono HB.out.size));exact⟨q1,q2,q3,(hW.cell (p:=⟨br,orr+k,none⟩) hbr).trans hcr⟩
   have hLT:∀ W,Below wr.heap.size wr W->Below W1.heap.size W1 W:=fun W hW=>HB.out.trans (hW.mono HB.out.size);have HLT:=hid hLT;have hpb:=HPB.out (zat ps k % (N:Int)).toNat
   have HPX:Hid (∀ W,Below wr.heap.size wr W->Calls Tryz.prog 92 #[.pointer (some ⟨d,0,none⟩),.int .i64 (zat ps k)] W fun e w'=>e=.returned (.int .i64 (Dom.pt p s r (zat ps k % (N:Int)).toNat))/\Below wr.heap.size wr w'):=fun W hW=>by exact (HPT.out W (zat ps k) (hLT W hW)).mono (by rintro e w' ⟨h1,h2⟩;exact⟨h1,hW.trans (h2.mono hW.size)⟩)
   obtain⟨X,hX⟩:=exE (Dom.pt p s r (zat ps k % (N:Int)).toNat);rw[<- hX] at HPX hpb
   have HEX:Hid (∀ W,Below wr.heap.size wr W->Calls Tryz.prog 82 #[.pointer (some ⟨b,0,none⟩),.slice a2 n1 c2,.int .i64 X] W fun e w'=>e=.returned (.int .i64 (evz p said X))/\Below wr.heap.size wr w'):=fun W hW =>
    (HEV.out W X (hLT W hW) hpb.1 hpb.2).mono (by rintro e w' ⟨h1,h2⟩;exact⟨h1,hW.trans (h2.mono hW.size)⟩)
   have HQX:Hid (∀ W,Below wr.heap.size wr W->Calls Tryz.prog F (#[.slice ak (rat rows k).length ck]++caps) W fun e w'=>e=.returned (.int .i64 (A (rat rows k)))/\Below wr.heap.size wr w'):=fun W hW =>
    (HQQ.out W k ak ck (hLT W hW) (by omega) ((hlk.below hW).mono hW.size)).mono (by rintro e w' ⟨h1,h2⟩;exact⟨h1,hW.trans (h2.mono hW.size)⟩)
   have hdw:Below wr.heap.size wr wr.drew:=(Below.refl _ _).drew;have HFF:=hid (HRF.out k hlt);rw[<- hX] at HFF;have HIX:=hid hI.out.1;have HXX:=hid hX;clear hX hI hlk hcr hLT;generalize (rat rows k).length=L at *;obtain⟨pk,hpk⟩:=exE (zat ps k);simp only[<- hpk] at HPX hxp;clear hpk;obtain⟨e1,he1⟩:=exE (evz p said X);obtain⟨e2,he2⟩:=exE (A (rat rows k));rw[<- he1] at HEX HFF;rw[<- he2] at HQX HFF;have HE1:=hid he1;have HE2:=hid he2;clear he1 he2;by_cases heq:e1=e2
   ·have hb:(e1 != e2)=false:=by rw[heq];simp
    have HNX:Hid (∀ j,j<k+1->evz p said (Dom.pt p s r (zat ps j % (N:Int)).toNat)=A (rat rows j)):=fun j hj=>by
     by_cases e:j=k
     ·subst e;rw[<- HXX.out,<- HE1.out,<- HE2.out];exact heq
     ·exact HIX.out j (by omega)
    clear HFF heq;go_wp2_with fail;refine wp_region_held_drew (S:=fun W=>W.cell? ⟨G,0,none⟩=some (.pointer (some ⟨b,0,none⟩))/\W.cell? ⟨G,1,none⟩=some (.pointer (some ⟨d,0,none⟩))/\W.cell? ⟨P,1,none⟩=some (.slice (some ⟨br,orr,none⟩) n3 cr)/\W.cell? ⟨br,orr+k,none⟩=some (.slice ak L ck)) (by kernel_rfl) (HKK.out wr.drew hdw) (fun hHeld=>?_);refine Aa 0 (.pointer (some ⟨G,0,none⟩)) ?_;simp only[Ac];refine Aa 1 (.pointer (some ⟨b,0,none⟩)) ?_;simp only[Ac];refine Aa 2 (.slice a2 n1 c2) ?_;simp only[Ac];refine Aa 3 (.pointer (some ⟨G,1,none⟩)) ?_;simp only[Ac];refine Aa 4 (.pointer (some ⟨d,0,none⟩)) ?_;simp only[Ac];refine Aa 5 (.int .i64 pk) ?_;simp only[Ac];refine Aa 8 (.func (.func F) #[] caps) ?_;simp only[Ac];refine Aa 9 (.pointer (some ⟨P,1,none⟩)) ?_;simp only[Ac];refine Aa 10 (.slice (some ⟨br,orr,none⟩) n3 cr) ?_;simp only[Ac];refine Aa 11 (.int .i64 (k:Int)) ?_;simp only[Ac];refine Aa 12 (.pointer (some ⟨br,orr+k,none⟩)) ?_;simp only[Ac];refine Aa 13 (.slice ak L ck) ?_;simp only[Ac];refine Ab 6 fun K' hK'=>?_;go_simp;refine (HPX.out _ hdw).mono ?_;rintro e w4 ⟨rfl,hb4⟩;refine hK'.out _ _ (HKK.out w4 hb4) (fun hHeld=>?_);clear hK' K';refine Ab 7 fun K' hK'=>?_;go_simp;refine (HEX.out _ hb4).mono ?_;rintro e w5 ⟨rfl,hb5⟩;refine hK'.out _ _ (HKK.out w5 hb5) (fun hHeld=>?_);clear hK' K';refine Ab 14 fun K' hK'=>?_;go_simp;refine (HQX.out _ hb5).mono ?_;rintro e w6 ⟨rfl,hb6⟩;refine hK'.out _ _ (HKK.out w6 hb6) (fun hHeld=>?_);clear hK' K';refine Aa 15 (.bool false) ?_;simp only[Ac];refine wpAnyH_done (by kernel_rfl) ?_ _;have HB6:=hid (HLT.out _ hb6);go_wp2_with fail;go_roundw
    case rel=>exact⟨k+1,by omega,by go_num,HNX.out,HB6.out⟩
    case measure=>simp[intOf];omega
   ·have hb:(e1 != e2)=true:=by simp[heq]
    have HRR:=hid (HFF.out heq);clear HFF heq;go_wp2_with fail;refine wp_region_held_drew (S:=fun W=>W.cell? ⟨G,0,none⟩=some (.pointer (some ⟨b,0,none⟩))/\W.cell? ⟨G,1,none⟩=some (.pointer (some ⟨d,0,none⟩))/\W.cell? ⟨P,1,none⟩=some (.slice (some ⟨br,orr,none⟩) n3 cr)/\W.cell? ⟨br,orr+k,none⟩=some (.slice ak L ck)) (by kernel_rfl) (HKK.out wr.drew hdw) (fun hHeld=>?_);refine Aa 0 (.pointer (some ⟨G,0,none⟩)) ?_;simp only[Ac];refine Aa 1 (.pointer (some ⟨b,0,none⟩)) ?_;simp only[Ac];refine Aa 2 (.slice a2 n1 c2) ?_;simp only[Ac];refine Aa 3 (.pointer (some ⟨G,1,none⟩)) ?_;simp only[Ac];refine Aa 4 (.pointer (some ⟨d,0,none⟩)) ?_;simp only[Ac];refine Aa 5 (.int .i64 pk) ?_;simp only[Ac];refine Aa 8 (.func (.func F) #[] caps) ?_;simp only[Ac];refine Aa 9 (.pointer (some ⟨P,1,none⟩)) ?_;simp only[Ac];refine Aa 10 (.slice (some ⟨br,orr,none⟩) n3 cr) ?_;simp only[Ac];refine Aa 11 (.int .i64 (k:Int)) ?_;simp only[Ac];refine Aa 12 (.pointer (some ⟨br,orr+k,none⟩)) ?_;simp only[Ac];refine Aa 13 (.slice ak L ck) ?_;simp only[Ac];refine Ab 6 fun K' hK'=>?_;go_simp;refine (HPX.out _ hdw).mono ?_;rintro e w4 ⟨rfl,hb4⟩;refine hK'.out _ _ (HKK.out w4 hb4) (fun hHeld=>?_);clear hK' K';refine Ab 7 fun K' hK'=>?_;go_simp;refine (HEX.out _ hb4).mono ?_;rintro e w5 ⟨rfl,hb5⟩;refine hK'.out _ _ (HKK.out w5 hb5) (fun hHeld=>?_);clear hK' K';refine Ab 14 fun K' hK'=>?_;go_simp;refine (HQX.out _ hb5).mono ?_;rintro e w6 ⟨rfl,hb6⟩;refine hK'.out _ _ (HKK.out w6 hb6) (fun hHeld=>?_);clear hK' K';refine Aa 15 (.bool true) ?_;simp only[Ac];refine wpAnyH_done (by kernel_rfl) ?_ _;have HB6:=hid (HT.out _ (HLT.out _ hb6));go_wp2_with fail;go_ret;exact⟨by rw[HRR.out];rfl,HB6.out⟩
  ·obtain rfl:k=n2:=by omega
   have hlt2:¬ (k:Int)<(k:Int):=by omega
   have HE:Hid (R=true/\Below w.heap.size w wr):=⟨HRT.out hI.out.1,HT.out _ hI.out.2⟩
   clear hI;go_wp2_with fail;go_ret;exact⟨by rw[HE.out.1];rfl,HE.out.2⟩
structure PlO (w:World) (c q n dd sb s b d N:Nat) (r t:Int) (a1 a2 a3 ap ar an' a4:Option Addr) (c1 c2 c3 cp cr cn c4:Nat) (root mixed point ps:List Int) (rows nodes:List (List Int)) (at':List Int):Prop where
 sp:∀ W,w.grownBy W (some c)->SpgAt W s sb q n dd
 dm:∀ W,w.grownBy W (some c)->DO W q b d N r t
 l1:∀ W,w.grownBy W (some c)->Lst W.heap.size W a1 c1 root
 l2:∀ W,w.grownBy W (some c)->Lst W.heap.size W a2 c2 mixed
 l3:∀ W,w.grownBy W (some c)->Lst W.heap.size W a3 c3 point
 lp:∀ W,w.grownBy W (some c)->Lst W.heap.size W ap cp ps
 lr:∀ W,w.grownBy W (some c)->LstR W.heap.size W ar cr rows
 ln:∀ W,w.grownBy W (some c)->LstR W.heap.size W an' cn nodes
 l4:∀ W,w.grownBy W (some c)->Lst W.heap.size W a4 c4 at'
theorem PlO.step{w w':World}{c n dd sb s b d:Nat}{t:Int}{a1 a2 a3 ap ar an' a4:Option Addr}{c1 c2 c3 cp cr cn c4:Nat}{root mixed point ps:List Int}{nodes:List (List Int)}{at':List Int} (h:PlO w c q n dd sb s b d N r t a1 a2 a3 ap ar an' a4 c1 c2 c3 cp cr cn c4 root mixed point ps rows nodes at') (g:w.grownBy w' (some c)):PlO w' c q n dd sb s b d N r t a1 a2 a3 ap ar an' a4 c1 c2 c3 cp cr cn c4 root mixed point ps rows nodes at' :=
 ⟨fun W k=>h.sp W (qX g k),fun W k=>h.dm W (qX g k),fun W k=>h.l1 W (qX g k),fun W k=>h.l2 W (qX g k),fun W k=>h.l3 W (qX g k),fun W k=>h.lp W (qX g k),fun W k=>h.lr W (qX g k),fun W k=>h.ln W (qX g k),fun W k=>h.l4 W (qX g k)⟩
structure PlF (root mixed point ps:List Int) (rows nodes:List (List Int)) (at':List Int):Prop where
 f1:Fits root
 f2:Fits mixed
 f3:Fits point
 fp:Fits ps
 fr:Ak rows
 fn:Ak nodes
 f4:Fits at'
 m1:root.length<=17592186043904
 m2:mixed.length<=17592186043904
 m3:point.length<=17592186043904
 mp:ps.length<=17592186043904
 mr:rows.length<=17592186043904
 mn:nodes.length<=17592186043904
 m4:at'.length<=17592186043904
def Ya (q n N hi:Nat) (root ps pl:List Int) (rows nodes:List (List Int)):Bool:=decide (ps=pl) && (wiB (2 ^ hi) rows && Eu q n root (N:Int) ps rows nodes)
theorem Yb (N0 q n dd sb s b d N v a c:Nat) (r t:Int) (a1 a2 a3 ap ar an' a4:Option Addr) (c1 c2 c3 cp cr cn c4:Nat) (root mixed point ps:List Int) (rows nodes:List (List Int)) (at' D:List Int) (w:World)
  (O:PlO w c q n dd sb s b d N r t a1 a2 a3 ap ar an' a4 c1 c2 c3 cp cr cn c4 root mixed point ps rows nodes at') (F:PlF root mixed point ps rows nodes at') (ok:SpgOk q n dd) (hP:PCh N0 q n w c D) (hD:Dig D)
  (hv:v<=12) (hfit:2 ^ (v-v / 2)<=N / 2) (hat:at'.length=v) (ha1:1<=a) (ha:a<=64) (h4r:root.length=4) (hmx:mixed.length=2 ^ (v-v / 2)) (hpt:point.length=2 ^ (v-v / 2)) :
  Calls Tryz.prog 14 #[.pointer (some ⟨s,0,none⟩),.pointer (some ⟨c,0,none⟩),.pointer (some ⟨d,0,none⟩),.int .i64 (v:Int),.slice a4 at'.length c4,.int .i64 (a:Int),.agg #[.slice a1 root.length c1,.slice a2 mixed.length c2,.slice a3 point.length c3,.slice ap ps.length cp,.slice ar rows.length cr,.slice an' nodes.length cn]] w fun e w' =>
   (Ya q n N (v / 2) root ps (pgP q n N a (pgE q n mixed point (pgD q n root at' D))) rows nodes=true/\agB q N r t mixed ps rows (fun l=>evz q l (zat (pgD q n root at' D) 0))=true/\agB q N r t point ps rows (fun l=>dtz q l.length l (wgL q (at'.take (v / 2))))=true ->
    e=.returned (.tuple #[.int .i64 (dtz q point.length point (wgL q (at'.drop (v / 2)))),.bool true])) /\
   (¬ (Ya q n N (v / 2) root ps (pgP q n N a (pgE q n mixed point (pgD q n root at' D))) rows nodes=true/\agB q N r t mixed ps rows (fun l=>evz q l (zat (pgD q n root at' D) 0))=true/\agB q N r t point ps rows (fun l=>dtz q l.length l (wgL q (at'.take (v / 2))))=true) ->
    e=.returned (.tuple #[.int .i64 0,.bool false])) /\
   PCh N0 q n w' c (pld q n a (pgE q n mixed point (pgD q n root at' D)))/\w.grownBy w' (some c):=by
 have hcl:=hP.lt;have hcg:=hP.ge;obtain⟨W0,hW0⟩:=exE (w.alloc (.cells #[.slice a1 root.length c1,.slice a2 mixed.length c2,.slice a3 point.length c3,.slice ap ps.length cp,.slice ar rows.length cr,.slice an' nodes.length cn] 53));obtain⟨P,hPP⟩:=exE (w.heap.size);have hb0:=blA hW0;have hs0:W0.heap[P]?=some (.cells #[.slice a1 root.length c1,.slice a2 mixed.length c2,.slice a3 point.length c3,.slice ap ps.length cp,.slice ar rows.length cr,.slice an' nodes.length cn] 53 (0,0)):=by rw[hW0,hPP];exact heap_alloc_new w _
 have D0:=(O.dm W0 (qJ hb0))
 have hNp:=D0.pos;have HNS:=hid (Hg d b v N r t W0 D0.da hv hNp.2);obtain⟨lo,hlo⟩:=exE (v-v / 2);obtain⟨hi,hhi⟩:=exE (v / 2);have hlo12:lo<=12:=by omega
 have hhi12:hi<=12:=by omega
 have hsv:shV b d v=.agg #[.pointer (some ⟨b,0,none⟩),.pointer (some ⟨d,0,none⟩),.int .i64 (hi:Int),.int .i64 (lo:Int)]:=by unfold shV;rw[hlo,hhi]
 rw[decide_eq_true hfit,hsv] at HNS;rw[<- hlo] at hmx hpt;have HIT:=hid (fun W=>Xx root.length mixed.length point.length c1 c2 c3 lo a1 a2 a3 (.pointer (some ⟨b,0,none⟩)) (.pointer (some ⟨d,0,none⟩)) (.slice ap ps.length cp) (.slice ar rows.length cr) (.slice an' nodes.length cn) (hi:Int) W hlo12);have hdec:decide (root.length=4/\mixed.length=2 ^ lo/\point.length=2 ^ lo)=true:=decide_eq_true ⟨h4r,hmx,hpt⟩;simp only[hdec] at HIT;have HMA:=hid (fun W=>Fg (a:Int) W);have hma:decide (1<=(a:Int)/\(a:Int)<=64)=true:=decide_eq_true ⟨by omega,by omega⟩;rw[hma] at HMA;have HOO:=hid O;have HFF:=hid F;have HPC:=hid hP;have HDD:=hid hD;have HB0:=hid hb0;have HS0:=hid hs0;rw[<- hhi];obtain⟨n1,hn1⟩:=exE (root.length);obtain⟨n2,hn2⟩:=exE (mixed.length);obtain⟨n3,hn3⟩:=exE (point.length);obtain⟨n4,hn4⟩:=exE (ps.length);obtain⟨n5,hn5⟩:=exE (rows.length);obtain⟨n6,hn6⟩:=exE (nodes.length);have H1:=hid hn1;have H2:=hid hn2;have H3:=hid hn3;have H4:=hid hn4;have H5:=hid hn5;have H6:=hid hn6;have HAT:=hid hat;have HMX:=hid hmx;have HPT:=hid hpt;have HHI:=hid hhi;have HLO:=hid hlo;have HPE:=hid hPP;obtain⟨D1,hD1⟩:=exE (pgD q n root at' D);rw[<- hD1];obtain⟨rr,hrr⟩:=exE (zat D1 0);rw[<- hrr];obtain⟨D2,hD2⟩:=exE (pgE q n mixed point D1);rw[<- hD2];obtain⟨pl,hpl⟩:=exE (pgP q n N a D2);rw[<- hpl];obtain⟨L1,hL1⟩:=exE (wgL q (at'.take hi));rw[<- hL1];obtain⟨VV,hVV⟩:=exE (dtz q point.length point (wgL q (at'.drop hi)));rw[<- hVV];obtain⟨T1,hT1⟩:=exE (Ya q n N hi root ps pl rows nodes);rw[<- hT1];obtain⟨T2,hT2⟩:=exE (agB q N r t mixed ps rows (fun l=>evz q l rr));rw[<- hT2];obtain⟨T3,hT3⟩:=exE (agB q N r t point ps rows (fun l=>dtz q l.length l L1));rw[<- hT3];have HD1:=hid hD1;have HRR:=hid hrr;have HD2:=hid hD2;have HPL:=hid hpl;have HL1:=hid hL1;have HVV:=hid hVV;have HT1:=hid hT1;have HT2:=hid hT2;have HT3:=hid hT3;clear hD1 hrr hD2 hpl hL1 hVV hT1 hT2 hT3;rw[hat];simp only[<- hn1,<- hn2,<- hn3,<- hn4,<- hn5,<- hn6] at hW0 HS0 HIT ⊢;clear O F hP hD hb0 hs0 D0 hn1 hn2 hn3 hn4 hn5 hn6 hat hmx hpt hhi hlo h4r hsv hdec hma hfit;go_enter Tryz.func14,Tryz.ntmps14;go_wp2_with fail;rw[<- hW0,<- hPP];clear hW0 hPP;refine HNS.out.mono ?_;rintro e w1 ⟨rfl,hb1⟩;have HS1:=hid ((hb1.block P (Array.getElem?_eq_some_iff.1 HS0.out).1).trans HS0.out);have HB1:Hid (Below w.heap.size w w1):=HB0.out.trans (hb1.mono HB0.out.size);clear hb1 HNS HS0 HB0;obtain⟨W2,hW2⟩:=exE (w1.alloc (.cells #[.pointer (some ⟨b,0,none⟩),.pointer (some ⟨d,0,none⟩),.int .i64 (hi:Int),.int .i64 (lo:Int)] 97));obtain⟨G,hG⟩:=exE (w1.heap.size);have hbw:=blA hW2;have HG2:Hid (W2.heap[G]?=some (.cells #[.pointer (some ⟨b,0,none⟩),.pointer (some ⟨d,0,none⟩),.int .i64 (hi:Int),.int .i64 (lo:Int)] 97 (0,0))):=by unfold Hid;rw[hW2,hG];exact heap_alloc_new w1 _
 have HS2:=hid ((hbw.block P (Array.getElem?_eq_some_iff.1 HS1.out).1).trans HS1.out);have HB2:Hid (Below w.heap.size w W2):=HB1.out.trans (hbw.mono HB1.out.size);have HGE:Hid (w.heap.size<=G):=by unfold Hid;rw[hG];exact HB1.out.size
 have HSX:Hid (∀ W,Below W2.heap.size W2 W->W.cell? ⟨G,0,none⟩=some (.pointer (some ⟨b,0,none⟩))/\W.cell? ⟨G,1,none⟩=some (.pointer (some ⟨d,0,none⟩))/\W.cell? ⟨G,2,none⟩=some (.int .i64 (hi:Int))/\W.cell? ⟨G,3,none⟩=some (.int .i64 (lo:Int))/\W.cell? ⟨P,0,none⟩=some (.slice a1 n1 c1)/\W.cell? ⟨P,1,none⟩=some (.slice a2 n2 c2)/\W.cell? ⟨P,2,none⟩=some (.slice a3 n3 c3)/\W.cell? ⟨P,3,none⟩=some (.slice ap n4 cp)/\W.cell? ⟨P,4,none⟩=some (.slice ar n5 cr)/\W.cell? ⟨P,5,none⟩=some (.slice an' n6 cn)):=fun W hW=>by have e1:=(hW.block G (Array.getElem?_eq_some_iff.1 HG2.out).1).trans HG2.out;have e2:=(hW.block P (Array.getElem?_eq_some_iff.1 HS2.out).1).trans HS2.out;refine⟨?_,?_,?_,?_,?_,?_,?_,?_,?_,?_⟩ <;> simp[World.cell?,e1,e2]
 obtain⟨g0,g1,g2,g3,p0,p1,p2,p3,p4,p5⟩:=HSX.out W2 (Below.refl _ _);clear hbw HS1 HB1;have HW2:=hid hW2;have HGG:=hid hG;clear hW2 hG;go_wp2_with fail;rw[<- HW2.out,<- HGG.out];clear HW2 HGG;refine (HMA.out W2).mono ?_;rintro e w' ⟨rfl,hw'⟩;have hw'':=hw'.symm;subst hw'';clear hw' HMA;go_wp2_with fail;refine (HIT.out W2).mono ?_;rintro e w3 ⟨rfl,hb3⟩;have HB3:Hid (Below w.heap.size w w3):=HB2.out.trans (hb3.mono HB2.out.size);have HG3:=hid ((hb3.block G (Array.getElem?_eq_some_iff.1 HG2.out).1).trans HG2.out);have HS3:=hid ((hb3.block P (Array.getElem?_eq_some_iff.1 HS2.out).1).trans HS2.out);clear hb3 HIT g0 g1 g2 g3 p0 p1 p2 p3 p4 p5 HSX HG2 HS2 HB2;obtain⟨wd,hwd⟩:=exE (w3.drew);have HBD:Hid (Below w.heap.size w wd):=by unfold Hid;rw[hwd];exact HB3.out.drew
 have HGD:Hid (wd.heap[G]?=some (.cells #[.pointer (some ⟨b,0,none⟩),.pointer (some ⟨d,0,none⟩),.int .i64 (hi:Int),.int .i64 (lo:Int)] 97 (0,0))):=by unfold Hid;rw[hwd];exact HG3.out
 have HSD:Hid (wd.heap[P]?=some (.cells #[.slice a1 n1 c1,.slice a2 n2 c2,.slice a3 n3 c3,.slice ap n4 cp,.slice ar n5 cr,.slice an' n6 cn] 53 (0,0))):=by unfold Hid;rw[hwd];exact HS3.out
 have hGc:G≠c:=by have:=HGE.out;omega
 have hPc:P≠c:=by have:=HPE.out;omega
 have HK:Hid (∀ W,wd.grownBy W (some c)->(fun W=>W.cell? ⟨G,0,none⟩=some (.pointer (some ⟨b,0,none⟩))/\W.cell? ⟨G,1,none⟩=some (.pointer (some ⟨d,0,none⟩))/\W.cell? ⟨G,2,none⟩=some (.int .i64 (hi:Int))/\W.cell? ⟨G,3,none⟩=some (.int .i64 (lo:Int))/\W.cell? ⟨P,0,none⟩=some (.slice a1 n1 c1)/\W.cell? ⟨P,1,none⟩=some (.slice a2 n2 c2)/\W.cell? ⟨P,2,none⟩=some (.slice a3 n3 c3)/\W.cell? ⟨P,3,none⟩=some (.slice ap n4 cp)/\W.cell? ⟨P,4,none⟩=some (.slice ar n5 cr)/\W.cell? ⟨P,5,none⟩=some (.slice an' n6 cn)) W):=fun W hW=>by have e1:=(qY hW (Array.getElem?_eq_some_iff.1 HGD.out).1 hGc).trans HGD.out;have e2:=(qY hW (Array.getElem?_eq_some_iff.1 HSD.out).1 hPc).trans HSD.out;refine⟨?_,?_,?_,?_,?_,?_,?_,?_,?_,?_⟩ <;> simp[World.cell?,e1,e2]
 have HOD:Hid (PlO wd c q n dd sb s b d N r t a1 a2 a3 ap ar an' a4 c1 c2 c3 cp cr cn c4 root mixed point ps rows nodes at'):=HOO.out.step (qJ HBD.out);have h3:3<=q:=(HOD.out.dm wd (qJ (Below.refl _ _))).h3;have h4:q<=2147483647:=(HOD.out.dm wd (qJ (Below.refl _ _))).hm;have HDP:=hid (Ey N0 q n c c1 c4 a1 a4 root at' D wd h3 h4 (HPC.out.below HBD.out) HDD.out HFF.out.m1 HFF.out.m4 HFF.out.f1 HFF.out.f4 HOD.out.l1 HOD.out.l4);rw[<- H1.out,HAT.out] at HDP;have HDG1:Hid (Dig D1):=by unfold Hid;rw[HD1.out];exact zY h3 h4 _ _
 rw[<- HD1.out,<- HRR.out] at HDP;have hrb:=HDG1.out.2.all 0;rw[<- HRR.out] at hrb;have htk:(at'.take hi).length=hi:=by rw[List.length_take,HAT.out,HHI.out];omega
 have HXT:Hid (∀ W,wd.grownBy W (some c)->Calls Tryz.prog 35 #[.agg #[.pointer (some ⟨b,0,none⟩),.pointer (some ⟨d,0,none⟩),.int .i64 (hi:Int),.int .i64 (lo:Int)],.slice a4 hi c4] W fun e w'=>∃ B0 B1,e=.returned (.func (.func 77) #[] #[.pointer (some ⟨B0,0,none⟩),.pointer (some ⟨B1,0,none⟩)])/\ExQ w' W.heap.size B0 B1 b L1/\Below W.heap.size W w'):=fun W hW=>by
  have hD2:=HOD.out.dm W hW
  have h:=Dg q b c4 (.pointer (some ⟨d,0,none⟩)) (hi:Int) (lo:Int) a4 (at'.take hi) W h3 h4 hD2.hp (by rw[htk];omega) (fun j hj=>by
   rw[htk] at hj;have:=HFF.out.f4.all j;simp only[zat,List.getElem?_take,if_pos hj] at this ⊢
   exact this) (fun k hk=>by
   rw[htk] at hk;obtain⟨b',o',e1,e2,e3⟩:=(HOD.out.l4 W hW).row k (by rw[HAT.out];have:=HHI.out;omega);refine⟨b',o',e1,e2,?_⟩;rw[e3]
   simp only[zat,List.getElem?_take,if_pos hk])
  rw[htk,<- HL1.out] at h;exact h
 have hdw:wd.grownBy wd (some c):=qJ (Below.refl _ _)
 have hic:hi<=c4:=by have:=(HOD.out.l4 wd hdw).room;rw[HAT.out] at this;have:=HHI.out;omega
 have hiv:(hi:Int)<=(v:Int):=by have:=HHI.out;omega
 have hic2:(hi:Int)<=(c4:Int):=by omega
 have HHW:=hid htk;clear HB3 HG3 HS3 htk;go_wp2_with fail;refine wp_region_held_drew (S:=fun W=>W.cell? ⟨G,0,none⟩=some (.pointer (some ⟨b,0,none⟩))/\W.cell? ⟨G,1,none⟩=some (.pointer (some ⟨d,0,none⟩))/\W.cell? ⟨G,2,none⟩=some (.int .i64 (hi:Int))/\W.cell? ⟨G,3,none⟩=some (.int .i64 (lo:Int))/\W.cell? ⟨P,0,none⟩=some (.slice a1 n1 c1)/\W.cell? ⟨P,1,none⟩=some (.slice a2 n2 c2)/\W.cell? ⟨P,2,none⟩=some (.slice a3 n3 c3)/\W.cell? ⟨P,3,none⟩=some (.slice ap n4 cp)/\W.cell? ⟨P,4,none⟩=some (.slice ar n5 cr)/\W.cell? ⟨P,5,none⟩=some (.slice an' n6 cn)) (by kernel_rfl) ((by rw[<- hwd];exact HK.out wd hdw)) (fun hHeld=>?_);rw[<- hwd] at hHeld ⊢;clear hwd;refine Aa 0 (.pointer (some ⟨G,0,none⟩)) ?_;simp only[Ac];refine Aa 1 (.pointer (some ⟨b,0,none⟩)) ?_;simp only[Ac];refine Aa 2 (.pointer (some ⟨c,0,none⟩)) ?_;simp only[Ac];refine Aa 3 (.pointer (some ⟨P,0,none⟩)) ?_;simp only[Ac];refine Aa 4 (.slice a1 n1 c1) ?_;simp only[Ac];refine Aa 5 (.slice a4 v c4) ?_;simp only[Ac];refine Aa 8 (.agg #[.pointer (some ⟨b,0,none⟩),.pointer (some ⟨d,0,none⟩),.int .i64 (hi:Int),.int .i64 (lo:Int)]) ?_;simp only[Ac];refine Aa 9 (.slice a4 v c4) ?_;simp only[Ac];refine Aa 10 (.pointer (some ⟨G,2,none⟩)) ?_;simp only[Ac];refine Aa 11 (.int .i64 (hi:Int)) ?_;simp only[Ac];refine Aa 12 (.slice a4 hi c4) ?_;simp only[Ac];refine Ab 6 fun K' hK'=>?_;go_simp;refine (HDP.out).mono ?_;rintro e w4 ⟨rfl,hp4,hg4⟩;have HG4:=hid hg4;have HP4:=hid hp4;refine hK'.out _ _ (HK.out w4 HG4.out) (fun hHeld=>?_);clear hK' K';refine Ab 7 fun K' hK'=>?_;go_simp;refine (Mv b rr w4).mono ?_;rintro e w5 ⟨B0,B1,rfl,kq0,kq1,kc0,kc1,hb5,kl0,kl1⟩;have HG5:=hid (qX HG4.out (qJ hb5));have HP5:=hid (HP4.out.below hb5);have HQ5:Hid (w5.cell? ⟨B0,0,none⟩=some (.pointer (some ⟨b,0,none⟩))/\w5.cell? ⟨B1,0,none⟩=some (.int .i64 rr)):=⟨kc0,kc1⟩
 have HEX:=hid (HXT.out w5 HG5.out);refine hK'.out _ _ (HK.out w5 HG5.out) (fun hHeld=>?_);clear hK' K';refine Ab 13 fun K' hK'=>?_;go_simp;refine (HEX.out).mono ?_;rintro e w6 ⟨E0,E1,rfl,hx6,hb6⟩;have HG6:=hid (qX HG5.out (qJ hb6));have HP6:=hid (HP5.out.below hb6);have HX6:=hid hx6;have HQ6:Hid (w6.cell? ⟨B0,0,none⟩=some (.pointer (some ⟨b,0,none⟩))/\w6.cell? ⟨B1,0,none⟩=some (.int .i64 rr)):=⟨(hb6.cell (p:=⟨B0,0,none⟩) (qK HQ5.out.1)).trans HQ5.out.1,(hb6.cell (p:=⟨B1,0,none⟩) (qK HQ5.out.2)).trans HQ5.out.2⟩
 refine hK'.out _ _ (HK.out w6 HG6.out) (fun hHeld=>?_);clear hK' K';refine Aa 14 (.func (.func 81) #[] #[.pointer (some ⟨B0,0,none⟩),.pointer (some ⟨B1,0,none⟩)]) ?_;simp only[Ac];refine Aa 15 (.func (.func 77) #[] #[.pointer (some ⟨E0,0,none⟩),.pointer (some ⟨E1,0,none⟩)]) ?_;simp only[Ac];refine wpAnyH_done (by kernel_rfl) ?_ _;have HKW:Hid (∀ W,wd.grownBy W (some c)->w.grownBy W (some c)):=fun W hW=>qX (qJ HBD.out) hW
 have HQ68:Hid (∀ W,w6.grownBy W (some c)->W.cell? ⟨B0,0,none⟩=some (.pointer (some ⟨b,0,none⟩))/\W.cell? ⟨B1,0,none⟩=some (.int .i64 rr)/\ExQ W w5.heap.size E0 E1 b L1):=fun W hW=>by
  have c5:=HP5.out.lt;have c4':=HP4.out.lt;have e0:B0≠c:=by omega
  have e1:B1≠c:=by omega
  refine⟨?_,?_,HX6.out.blocks hW.size (fun k hk1 hk2=>qY hW hk2 (by omega))⟩
  ·exact (World.cell?_of_block (w:=w6) (a:=⟨B0,0,none⟩) (qY hW (qK HQ6.out.1) e0)).trans HQ6.out.1
  ·exact (World.cell?_of_block (w:=w6) (a:=⟨B1,0,none⟩) (qY hW (qK HQ6.out.2) e1)).trans HQ6.out.2
 have HDL:=hid (Ed N0 q n c d b N a c2 c3 a2 a3 (.pointer (some ⟨b,0,none⟩)) (.int .i64 (hi:Int)) (.int .i64 (lo:Int)) (.slice a1 n1 c1) (.slice ap n4 cp) (.slice ar n5 cr) (.slice an' n6 cn) r t mixed point D1 w6.drew h3 h4 (HP6.out.below (Below.refl _ _).drew) HDG1.out HFF.out.m2 HFF.out.m3 HFF.out.f2 HFF.out.f3 (by omega) hNp.2 (by omega) (fun W g=>(HOD.out.dm W (qX HG6.out (qX (qJ (Below.refl _ _).drew) g))).da) (fun W g=>HOD.out.l2 W (qX HG6.out (qX (qJ (Below.refl _ _).drew) g))) (fun W g=>HOD.out.l3 W (qX HG6.out (qX (qJ (Below.refl _ _).drew) g))));rw[<- HD2.out,<- HPL.out,<- H2.out,<- H3.out] at HDL
 have HSW:Hid (∀ (W:World) (apl:Option Addr) (cpl:Nat),wd.grownBy W (some c)->RowB W.heap.size W apl pl->Calls Tryz.prog 40 #[.agg #[.pointer (some ⟨b,0,none⟩),.pointer (some ⟨d,0,none⟩),.int .i64 (hi:Int),.int .i64 (lo:Int)],.pointer (some ⟨s,0,none⟩),.agg #[.slice a1 n1 c1,.slice a2 n2 c2,.slice a3 n3 c3,.slice ap n4 cp,.slice ar n5 cr,.slice an' n6 cn],.slice apl pl.length cpl] W fun e w'=>e=.returned (.bool T1)/\Below W.heap.size W w'):=fun W apl cpl hW hr=>by have h:=Xz q n dd sb b s d hi N c1 cp cr cn cpl r t a1 ap ar an' apl (.pointer (some ⟨b,0,none⟩)) (.int .i64 (lo:Int)) (.slice a2 n2 c2) (.slice a3 n3 c3) root ps pl rows nodes W hhi12 ok (HOD.out.sp W hW) (HOD.out.dm W hW).da hNp.2 (by have:=HFF.out.mp;omega) (by have:=HFF.out.mr;omega) (by have:=HFF.out.mn;omega) HFF.out.f1 HFF.out.fp HFF.out.fr HFF.out.fn (HOD.out.l1 W hW) (HOD.out.lp W hW) (HOD.out.lr W hW) (HOD.out.ln W hW) hr;rw[HT1.out];unfold Ya;rw[<- H1.out,<- H4.out,<- H5.out,<- H6.out] at h;exact h
 have hG6d:wd.grownBy w6.drew (some c):=qX HG6.out (qJ (Below.refl _ _).drew);have HK6:=hid (HK.out w6.drew hG6d);clear HDP HXT HEX hdw HP4 HG4 HP5 HG5 HQ5 hG6d hb5 hb6 hx6 kq0 kq1 kc0 kc1 hg4 hp4 hHeld;cases hT:T1 with
 | false =>
  rw[hT] at HSW
  have HNO:Hid (¬ (T1=true/\T2=true/\T3=true)):=fun h=>by have:=h.1;rw[hT] at this;cases this
  clear hT;go_wp2_with fail;refine wp_region_held_drew (S:=fun W=>W.cell? ⟨G,0,none⟩=some (.pointer (some ⟨b,0,none⟩))/\W.cell? ⟨G,1,none⟩=some (.pointer (some ⟨d,0,none⟩))/\W.cell? ⟨G,2,none⟩=some (.int .i64 (hi:Int))/\W.cell? ⟨G,3,none⟩=some (.int .i64 (lo:Int))/\W.cell? ⟨P,0,none⟩=some (.slice a1 n1 c1)/\W.cell? ⟨P,1,none⟩=some (.slice a2 n2 c2)/\W.cell? ⟨P,2,none⟩=some (.slice a3 n3 c3)/\W.cell? ⟨P,3,none⟩=some (.slice ap n4 cp)/\W.cell? ⟨P,4,none⟩=some (.slice ar n5 cr)/\W.cell? ⟨P,5,none⟩=some (.slice an' n6 cn)) (by kernel_rfl) (HK6.out) (fun hHeld=>?_);refine Aa 0 (.agg #[.pointer (some ⟨b,0,none⟩),.pointer (some ⟨d,0,none⟩),.int .i64 (hi:Int),.int .i64 (lo:Int)]) ?_;simp only[Ac];refine Aa 1 (.pointer (some ⟨s,0,none⟩)) ?_;simp only[Ac];refine Aa 2 (.agg #[.slice a1 n1 c1,.slice a2 n2 c2,.slice a3 n3 c3,.slice ap n4 cp,.slice ar n5 cr,.slice an' n6 cn]) ?_;simp only[Ac];refine Aa 3 (.agg #[.pointer (some ⟨b,0,none⟩),.pointer (some ⟨d,0,none⟩),.int .i64 (hi:Int),.int .i64 (lo:Int)]) ?_;simp only[Ac];refine Aa 4 (.pointer (some ⟨c,0,none⟩)) ?_;simp only[Ac];refine Aa 5 (.agg #[.slice a1 n1 c1,.slice a2 n2 c2,.slice a3 n3 c3,.slice ap n4 cp,.slice ar n5 cr,.slice an' n6 cn]) ?_;simp only[Ac];refine Aa 6 (.int .i64 (a:Int)) ?_;simp only[Ac];refine Ab 7 fun K' hK'=>?_;go_simp;refine (HDL.out).mono ?_;rintro e w7 ⟨vv,rfl,hv7,hp7,hg7⟩;have HG7:=hid (qX HG6.out (qX (qJ (Below.refl _ _).drew) hg7));have HP7:=hid hp7;obtain⟨apl,cpl,rfl,hlp⟩:=kY hv7;have HSH:=hid (HSW.out w7 apl cpl HG7.out hlp.row);clear hv7 hlp hp7;generalize pl.length=nl at *;refine hK'.out _ _ (HK.out w7 HG7.out) (fun hHeld=>?_);clear hK' K';refine Ab 8 fun K' hK'=>?_;go_simp;refine (HSH.out).mono ?_;rintro e w8 ⟨rfl,hb8⟩;have HG8:=hid (qX HG7.out (qJ hb8));have HP8:=hid (HP7.out.below hb8);refine hK'.out _ _ (HK.out w8 HG8.out) (fun hHeld=>?_);clear hK' K';refine Aa 9 (.bool true) ?_;simp only[Ac];refine wpAnyH_done (by kernel_rfl) ?_ _;go_wp2_with fail;go_ret2;exact⟨fun h=>absurd h HNO.out,fun _=>rfl,HP8.out,HKW.out _ HG8.out⟩
 | true =>
  rw[hT] at HSW
  have hwr:wiB (2 ^ hi) rows=true/\Eu q n root (N:Int) ps rows nodes=true:=by have h:=HT1.out;rw[hT] at h;unfold Ya at h;have h:=h.symm;rw[Bool.and_eq_true,Bool.and_eq_true] at h;exact h.2
  have HWR:=hid hwr.1
  have HPR:Hid (rows.length=ps.length):=by
   by_cases g:1<=(N:Int)/\(N:Int)<=65536/\rows.length=ps.length/\root.length=4/\Dk (N:Int) ps
   ·exact g.2.2.1
   ·rw[Rl g] at hwr;exact absurd hwr.2 (by simp)
  have HLL:Hid (L1.length=2 ^ hi):=by unfold Hid;rw[HL1.out,Gi,HHW.out]
  have HTT:=hid hT;clear hwr hT;go_wp2_with fail;refine wp_region_held_drew (S:=fun W=>W.cell? ⟨G,0,none⟩=some (.pointer (some ⟨b,0,none⟩))/\W.cell? ⟨G,1,none⟩=some (.pointer (some ⟨d,0,none⟩))/\W.cell? ⟨G,2,none⟩=some (.int .i64 (hi:Int))/\W.cell? ⟨G,3,none⟩=some (.int .i64 (lo:Int))/\W.cell? ⟨P,0,none⟩=some (.slice a1 n1 c1)/\W.cell? ⟨P,1,none⟩=some (.slice a2 n2 c2)/\W.cell? ⟨P,2,none⟩=some (.slice a3 n3 c3)/\W.cell? ⟨P,3,none⟩=some (.slice ap n4 cp)/\W.cell? ⟨P,4,none⟩=some (.slice ar n5 cr)/\W.cell? ⟨P,5,none⟩=some (.slice an' n6 cn)) (by kernel_rfl) (HK6.out) (fun hHeld=>?_);refine Aa 0 (.agg #[.pointer (some ⟨b,0,none⟩),.pointer (some ⟨d,0,none⟩),.int .i64 (hi:Int),.int .i64 (lo:Int)]) ?_;simp only[Ac];refine Aa 1 (.pointer (some ⟨s,0,none⟩)) ?_;simp only[Ac];refine Aa 2 (.agg #[.slice a1 n1 c1,.slice a2 n2 c2,.slice a3 n3 c3,.slice ap n4 cp,.slice ar n5 cr,.slice an' n6 cn]) ?_;simp only[Ac];refine Aa 3 (.agg #[.pointer (some ⟨b,0,none⟩),.pointer (some ⟨d,0,none⟩),.int .i64 (hi:Int),.int .i64 (lo:Int)]) ?_;simp only[Ac];refine Aa 4 (.pointer (some ⟨c,0,none⟩)) ?_;simp only[Ac];refine Aa 5 (.agg #[.slice a1 n1 c1,.slice a2 n2 c2,.slice a3 n3 c3,.slice ap n4 cp,.slice ar n5 cr,.slice an' n6 cn]) ?_;simp only[Ac];refine Aa 6 (.int .i64 (a:Int)) ?_;simp only[Ac];refine Ab 7 fun K' hK'=>?_;go_simp;refine (HDL.out).mono ?_;rintro e w7 ⟨vv,rfl,hv7,hp7,hg7⟩;have HG7:=hid (qX HG6.out (qX (qJ (Below.refl _ _).drew) hg7));have HP7:=hid hp7;obtain⟨apl,cpl,rfl,hlp⟩:=kY hv7;have HSH:=hid (HSW.out w7 apl cpl HG7.out hlp.row);clear hv7 hlp hp7;generalize pl.length=nl at *;refine hK'.out _ _ (HK.out w7 HG7.out) (fun hHeld=>?_);clear hK' K';refine Ab 8 fun K' hK'=>?_;go_simp;refine (HSH.out).mono ?_;rintro e w8 ⟨rfl,hb8⟩;have HG8:=hid (qX HG7.out (qJ hb8));have HP8:=hid (HP7.out.below hb8);refine hK'.out _ _ (HK.out w8 HG8.out) (fun hHeld=>?_);clear hK' K';refine Aa 9 (.bool false) ?_;simp only[Ac];refine wpAnyH_done (by kernel_rfl) ?_ _;have HG68:Hid (w6.grownBy w8 (some c)):=qX (qJ (Below.refl _ _).drew) (qX hg7 (qJ hb8));clear HDL HSW HSH HK6 hg7 hHeld HP7 HG7 hb8;have hD8:=HOD.out.dm w8 HG8.out;obtain⟨x0,x1,x2⟩:=HQ68.out w8 HG68.out
  have HA1:=hid (My q b d N 81 c2 cp cr #[.pointer (some ⟨B0,0,none⟩),.pointer (some ⟨B1,0,none⟩)] (fun l=>evz q l rr) r t a2 ap ar (.int .i64 (hi:Int)) (.int .i64 (lo:Int)) (.slice an' n6 cn) mixed ps rows w8 hD8 (by have:=HFF.out.m2;omega) (by have:=HFF.out.mp;omega) (by rw[HPR.out];exact Nat.le_refl _) HFF.out.f2 (HOD.out.l2 w8 HG8.out).row (HOD.out.lp w8 HG8.out).row (HOD.out.lr w8 HG8.out)
   (xZ Tryz.func81 (by kernel_rfl) (by kernel_rfl))
   (fun W k ak ck hW hk hl=>Up q b B0 B1 ck rr ak (rat rows k) W h3 h4 (hD8.step hW).hp ((hW.cell (p:=⟨B0,0,none⟩) (qK x0)).trans x0) ((hW.cell (p:=⟨B1,0,none⟩) (qK x1)).trans x1) (by have:=(HFF.out.fr k hk).2;omega) (HFF.out.fr k hk).1 hrb.1 hrb.2 hl.row))
  rw[<- HT2.out,<- H2.out,<- H4.out,<- H5.out] at HA1;obtain⟨g0,g1,g2,g3,p0,p1,p2,p3,p4,p5⟩:=HK.out w8 HG8.out;clear hD8 x0 x1 x2;cases hT2:T2 with
  | false =>
   rw[hT2] at HA1
   have HNO:Hid (¬ (T1=true/\T2=true/\T3=true)):=fun h=>by have:=h.2.1;rw[hT2] at this;cases this
   clear hT2;go_wp2_with fail;refine HA1.out.mono ?_;rintro e w9 ⟨rfl,hb9⟩;have HG9:=hid (qX HG8.out (qJ hb9));have HP9:=hid (HP8.out.below hb9);clear hb9 HA1 g0 g1 g2 g3 p0 p1 p2 p3 p4 p5;go_wp2_with fail;go_ret2;exact⟨fun h=>absurd h HNO.out,fun _=>rfl,HP9.out,HKW.out _ HG9.out⟩
  | true =>
   rw[hT2] at HA1;have HT2T:=hid hT2;clear hT2;go_wp2_with fail;refine HA1.out.mono ?_;rintro e w9 ⟨rfl,hb9⟩;have HG9:=hid (qX HG8.out (qJ hb9));have HP9:=hid (HP8.out.below hb9);have HG69:Hid (w6.grownBy w9 (some c)):=qX HG68.out (qJ hb9);clear hb9 HA1 g0 g1 g2 g3 p0 p1 p2 p3 p4 p5 HG8 HP8 HG68;have hD9:=HOD.out.dm w9 HG9.out;obtain⟨_,_,x2⟩:=HQ68.out w9 HG69.out
   have HA2:=hid (My q b d N 77 c3 cp cr #[.pointer (some ⟨E0,0,none⟩),.pointer (some ⟨E1,0,none⟩)] (fun l=>dtz q l.length l L1) r t a3 ap ar (.int .i64 (hi:Int)) (.int .i64 (lo:Int)) (.slice an' n6 cn) point ps rows w9 hD9 (by have:=HFF.out.m3;omega) (by have:=HFF.out.mp;omega) (by rw[HPR.out];exact Nat.le_refl _) HFF.out.f3 (HOD.out.l3 w9 HG9.out).row (HOD.out.lp w9 HG9.out).row (HOD.out.lr w9 HG9.out)
    (xZ Tryz.func77 (by kernel_rfl) (by kernel_rfl))
    (fun W k ak ck hW hk hl=>Hj q b w5.heap.size E0 E1 ck ak (rat rows k) L1 W h3 h4 (hD9.step hW).hp (x2.below hW) (by rw[HLL.out,aCW HWR.out hk];exact Nat.le_refl _) (by have:=(HFF.out.fr k hk).2;omega) (HFF.out.fr k hk).1 (by rw[HL1.out];exact Gj h4 h3 _) hl.row))
   rw[<- HT3.out,<- H3.out,<- H4.out,<- H5.out] at HA2;obtain⟨g0,g1,g2,g3,p0,p1,p2,p3,p4,p5⟩:=HK.out w9 HG9.out;clear hD9 x2;cases hT3:T3 with
   | false =>
    rw[hT3] at HA2
    have HNO:Hid (¬ (T1=true/\T2=true/\T3=true)):=fun h=>by have:=h.2.2;rw[hT3] at this;cases this
    clear hT3;go_wp2_with fail;refine HA2.out.mono ?_;rintro e w10 ⟨rfl,hb10⟩;have HG10:=hid (qX HG9.out (qJ hb10));have HP10:=hid (HP9.out.below hb10);clear hb10 HA2 g0 g1 g2 g3 p0 p1 p2 p3 p4 p5;go_wp2_with fail;go_ret2;exact⟨fun h=>absurd h HNO.out,fun _=>rfl,HP10.out,HKW.out _ HG10.out⟩
   | true =>
    rw[hT3] at HA2;have HYES:Hid (T1=true/\T2=true/\T3=true):=⟨HTT.out,HT2T.out,hT3⟩
    clear hT3;go_wp2_with fail;refine HA2.out.mono ?_;rintro e w10 ⟨rfl,hb10⟩;have HG10:=hid (qX HG9.out (qJ hb10));have HP10:=hid (HP9.out.below hb10);have HGX:Hid (wd.grownBy w10.drew (some c)):=qX HG10.out (qJ (Below.refl _ _).drew);have HPX:Hid (PCh N0 q n w10.drew c (pld q n a D2)):=HP10.out.below (Below.refl _ _).drew;have hdr:(at'.drop hi).length=v-hi:=by rw[List.length_drop,HAT.out]
    have hlov:v-hi=lo:=by rw[HLO.out,HHI.out]
    have HX2:Hid (∀ W,wd.grownBy W (some c)->Calls Tryz.prog 35 #[.agg #[.pointer (some ⟨b,0,none⟩),.pointer (some ⟨d,0,none⟩),.int .i64 (hi:Int),.int .i64 (lo:Int)],.slice (if c4=hi then a4 else a4.map (fun x=>x.add hi)) (v-hi) (c4-hi)] W fun e w'=>∃ B0 B1,e=.returned (.func (.func 77) #[] #[.pointer (some ⟨B0,0,none⟩),.pointer (some ⟨B1,0,none⟩)])/\ExQ w' W.heap.size B0 B1 b (wgL q (at'.drop hi))/\Below W.heap.size W w'):=fun W hW=>by
     have hD2:=HOD.out.dm W hW;have hl4:=HOD.out.l4 W hW
     have h:=Dg q b (c4-hi) (.pointer (some ⟨d,0,none⟩)) (hi:Int) (lo:Int) (if c4=hi then a4 else a4.map (fun x=>x.add hi)) (at'.drop hi) W h3 h4 hD2.hp (by rw[hdr];omega) (fun j hj=>by
      have:=HFF.out.f4.all (hi+j);simp only[zat,List.getElem?_drop] at this ⊢
      exact this) (fun k hk=>by
      rw[hdr] at hk;obtain⟨b',o',e1,e2,e3⟩:=hl4.row (hi+k) (by rw[HAT.out];omega);have hroom:=hl4.room;rw[HAT.out] at hroom;refine⟨b',o'+hi,?_,e2,?_⟩
      ·rw[if_neg (by omega),e1];simp only[Option.map_some,Addr.add];split
       ·next h0=>rw[h0,Nat.add_zero]
       ·rfl
      ·rw[show o'+hi+k=o'+(hi+k) from by omega,e3]
       simp only[zat,List.getElem?_drop])
     rw[hdr] at h;exact h
    have HQ3:Hid (∀ (W:World) (F0 F1:Nat),wd.grownBy W (some c)->ExQ W w10.drew.heap.size F0 F1 b (wgL q (at'.drop hi))->Calls Tryz.prog 77 #[.slice a3 n3 c3,.pointer (some ⟨F0,0,none⟩),.pointer (some ⟨F1,0,none⟩)] W fun e w'=>e=.returned (.int .i64 VV)/\Below W.heap.size W w'):=fun W F0 F1 hW hx=>by have h:=Hj q b w10.drew.heap.size F0 F1 c3 a3 point (wgL q (at'.drop hi)) W h3 h4 (HOD.out.dm W hW).hp hx (by rw[Gi,hdr,hlov,HPT.out];exact Nat.le_refl _) (by have:=HFF.out.m3;omega) HFF.out.f3 (Gj h4 h3 _) (HOD.out.l3 W hW).row;rw[<- HVV.out,<- H3.out] at h;exact h
    obtain⟨AA,hAA⟩:=exE ((if c4=hi then a4 else a4.map (fun x=>x.add hi)));rw[<- hAA] at HX2;have HAA:=hid hAA;have hlow:(0:Int)<=(hi:Int):=by omega
    clear hAA;clear hb10 HA2 g0 g1 g2 g3 p0 p1 p2 p3 p4 p5 hdr hlov HG9 HP9 HG69 HQ68 HT1 HT2 HT3 HL1 HVV;go_wp2_with fail;refine wp_region_held_drew (S:=fun W=>W.cell? ⟨G,0,none⟩=some (.pointer (some ⟨b,0,none⟩))/\W.cell? ⟨G,1,none⟩=some (.pointer (some ⟨d,0,none⟩))/\W.cell? ⟨G,2,none⟩=some (.int .i64 (hi:Int))/\W.cell? ⟨G,3,none⟩=some (.int .i64 (lo:Int))/\W.cell? ⟨P,0,none⟩=some (.slice a1 n1 c1)/\W.cell? ⟨P,1,none⟩=some (.slice a2 n2 c2)/\W.cell? ⟨P,2,none⟩=some (.slice a3 n3 c3)/\W.cell? ⟨P,3,none⟩=some (.slice ap n4 cp)/\W.cell? ⟨P,4,none⟩=some (.slice ar n5 cr)/\W.cell? ⟨P,5,none⟩=some (.slice an' n6 cn)) (by kernel_rfl) (HK.out _ HGX.out) (fun hHeld=>?_);refine Aa 0 (.agg #[.pointer (some ⟨b,0,none⟩),.pointer (some ⟨d,0,none⟩),.int .i64 (hi:Int),.int .i64 (lo:Int)]) ?_;simp only[Ac];refine Aa 1 (.slice a4 v c4) ?_;simp only[Ac];refine Aa 2 (.pointer (some ⟨G,2,none⟩)) ?_;simp only[Ac];refine Aa 3 (.int .i64 (hi:Int)) ?_;simp only[Ac];refine tkU 4 (.slice AA (v-hi) (c4-hi)) rfl (fun W hC=>by rw[HAA.out];go_simp) hHeld ?_;simp only[Ac];refine Aa 6 (.pointer (some ⟨P,2,none⟩)) ?_;simp only[Ac];refine Aa 7 (.slice a3 n3 c3) ?_;simp only[Ac];refine Ab 5 fun K' hK'=>?_;go_simp;refine (HX2.out _ HGX.out).mono ?_;rintro e w11 ⟨F0,F1,rfl,hx11,hb11⟩;have HG11:=hid (qX HGX.out (qJ hb11));have HP11:=hid (HPX.out.below hb11);have HQQ:=hid (HQ3.out w11 F0 F1 HG11.out hx11);refine hK'.out _ _ (HK.out w11 HG11.out) (fun hHeld=>?_);clear hK' K';refine Ab 8 fun K' hK'=>?_;go_simp;refine (HQQ.out).mono ?_;rintro e w12 ⟨rfl,hb12⟩;have HG12:=hid (qX HG11.out (qJ hb12));have HP12:=hid (HP11.out.below hb12);refine hK'.out _ _ (HK.out w12 HG12.out) (fun hHeld=>?_);clear hK' K';refine Aa 9 (.int .i64 VV) ?_;simp only[Ac];refine Aa 10 (.bool true) ?_;simp only[Ac];refine wpAnyH_done (by kernel_rfl) ?_ _;go_wp2_with fail;go_ret2;exact⟨fun _=>rfl,fun h=>absurd HYES.out h,HP12.out,HKW.out _ HG12.out⟩
theorem Bx (a:Int) (q:Nat):(q:Int)∣a % (q:Int)-a:=⟨-(a / (q:Int)),by
 rw[Int.emod_def,Int.mul_neg];generalize (q:Int)*(a / (q:Int))=z
 omega⟩
theorem aAf (f:Nat->Int) (b:Nat):∀ a,Dom.sm f (a*b)=Dom.sm (fun i=>Dom.sm (fun j=>f (i*b+j)) b) a
 | 0=>by simp[Dom.sm]
 | a+1=>by rw[Nat.succ_mul,Sum.sm_split,aAf f b a];rfl
theorem Ur (at':Nat->Int) (hi:Nat):∀ (lo i j:Nat),j<2 ^ lo->Sum.wgt at' (hi+lo) (i*2 ^ lo+j)=Sum.wgt at' hi i*Sum.wgt (fun k=>at' (hi+k)) lo j
 | 0,i,j,hj=>by
  obtain rfl:j=0:=by simpa using hj
  simp[Sum.wgt,Sum.prz]
 | lo+1,i,j,hj=>by
  obtain⟨b,hb⟩:=exE (j % 2);obtain⟨j',hj'⟩:∃ j',j'=j / 2:=⟨_,rfl⟩
  have e1:j=2*j'+b:=by omega
  have e2:i*2 ^ (lo+1)+j=2*(i*2 ^ lo+j')+b:=by
   rw[e1,Nat.pow_succ,Nat.mul_add];have:i*(2 ^ lo*2)=2*(i*2 ^ lo):=by rw[<- Nat.mul_assoc,Nat.mul_comm]
   omega
  have h2:j'<2 ^ lo:=by rw[Nat.pow_succ] at hj;omega
  rw[e2,<- Nat.add_assoc,Jw at' (hi+lo) _ b (by omega),Ur at' hi lo i j' h2,e1,Jw _ lo j' b (by omega),Int.mul_assoc]
theorem Oz{f g:Nat->Int}{v:Nat} (i:Nat) (h:∀ j,j<v->f j=g j):Sum.wgt f v i=Sum.wgt g v i:=by
 have h1:=Sum.ext_same (t:=fun k=>if k=i then 1 else 0) (u:=fun k=>if k=i then 1 else 0) (v:=v) (fun _ _=>rfl) h;unfold Sum.wgt;refine Sum.prz_same (fun k hk=>?_);rw[h _ (by omega)]
theorem aEF (h3:3<=q) (L:List Int) (rows:List (List Int)) (x:Int) (hM:rows.length=M) (hw:∀ k,k<M->(rat rows k).length=st):evz q (smr q M L rows st) x=dtz q M L (ls (fun i=>evz q (rat rows i) x) M):=by
 rw[Jv h3,Gk];unfold dtz;refine jK ?_
 have e1:(q:Int)∣Dom.sm (fun m=>zat (pwl q x st) m*zat (smr q M L rows st) m) st-Dom.sm (fun m=>Dom.sm (fun i=>zat (pwl q x st) m*(zat L i*zat (rat rows i) m)) M) st:=by
  refine Dom.sm_congr (fun m hm=>?_);unfold smr;rw[kZ _ _ _ hm,Dom.sm_mul];unfold dtz
  have h:(q:Int)∣(Dom.sm (fun i=>zat L i*zat (pgc rows m) i) M) % (q:Int)-Dom.sm (fun i=>zat L i*zat (rat rows i) m) M:=by rw[Dom.sm_same (f:=fun i=>zat L i*zat (pgc rows m) i) (g:=fun i=>zat L i*zat (rat rows i) m) (fun i hi=>by show zat L i*zat (pgc rows m) i=_;rw[Qh m (by omega)])];exact Bx _ _
  rw[<- Int.mul_sub];exact Int.dvd_mul_of_dvd_right h
 have e2:(q:Int)∣Dom.sm (fun i=>zat L i*zat (ls (fun i=>evz q (rat rows i) x) M) i) M-Dom.sm (fun i=>Dom.sm (fun m=>zat (pwl q x st) m*(zat L i*zat (rat rows i) m)) st) M:=by refine Dom.sm_congr (fun i hi=>?_);rw[kZ _ _ _ hi,Jv h3,hw i hi];unfold dtz;rw[Dom.sm_same (f:=fun m=>zat (pwl q x st) m*(zat L i*zat (rat rows i) m)) (g:=fun m=>zat L i*(zat (pwl q x st) m*zat (rat rows i) m)) (fun m _=>by rw[Int.mul_left_comm]),Dom.sm_mul,<- Int.mul_sub];exact Int.dvd_mul_of_dvd_right (Bx _ _)
 rw[Dom.sm_swap] at e1;have:=Int.dvd_sub e1 e2
 rwa [show ∀ a b c:Int,a-c-(b-c)=a-b from fun a b c=>by omega] at this
theorem aFD{s:Int}{j:Nat} (hM:rows.length=M) (hj:j<N):rat (cll q s r N rows) j=ls (fun i=>evz q (rat rows i) (Dom.pt q s r j)) M:=by
 rw[Xw hj];unfold pgc ls;rw[List.map_map];refine List.ext_getElem (by simp[hM]) (fun i h1 h2=>?_);rw[List.getElem_map,List.getElem_map,List.getElem_range];have hi:i<rows.length:=by simpa using h1
 show zat (vll q s r N (rows[i]'hi)) j=evz q (rat rows i) _;unfold vll;rw[kZ _ _ _ hj];unfold rat;rw[List.getD_eq_getElem?_getD,List.getElem?_eq_getElem hi];rfl
theorem aEG (f:Nat->Int) (M:Nat) (hf:∀ i,0<=f i/\f i<q):elr q (ls f M)=ls f M:=by
 unfold elr;rw[kQ];unfold ls;refine List.ext_getElem (by simp) (fun i h1 h2=>?_);rw[List.getElem_map,List.getElem_map,List.getElem_range];have hi:i<M:=by simpa using h1
 have h:=kZ f M i hi;unfold ls at h;rw[h];exact Int.emod_eq_of_lt (hf i).1 (hf i).2
theorem Pa (h3:3<=q) {s r:Int} {rows:List (List Int)} {ps:List Int} {k:Nat} (hM:rows.length=M) (hk:k<ps.length) (hp:0<=zat ps k/\zat ps k<(N:Int)):rat (shw q (cll q s r N rows) ps) k=ls (fun i=>evz q (rat rows i) (Dom.pt q s r (zat ps k).toNat)) M:=by
 have h:rat (shw q (cll q s r N rows) ps) k=elr q (rat (cll q s r N rows) (zat ps k).toNat):=by
  unfold shw;unfold rat;rw[List.getD_eq_getElem?_getD,List.getElem?_map,List.getElem?_eq_getElem hk];show elr q (List.getD _ (ps[k]).toNat [])=_
  have e:zat ps k=ps[k]:=by unfold zat;rw[List.getElem?_eq_getElem hk];rfl
  rw[e]
 rw[h,aFD hM (by omega)];exact aEG _ _ (fun i=>Fb q _ _ h3)
theorem aAg (h3:3<=q) {s r:Int} (L:List Int) {rows:List (List Int)} {ps:List Int} (hM:rows.length=M) (hw:∀ k,k<M->(rat rows k).length=st) (hp:∀ k,k<ps.length->0<=zat ps k/\zat ps k<(N:Int)) (A:List Int->Int) (hA:∀ l:List Int,l.length=M->A l=dtz q M L l):agB q N r s (smr q M L rows st) ps (shw q (cll q s r N rows) ps) A=true:=by
 unfold agB;rw[decide_eq_true_eq];intro k hk;rw[Int.emod_eq_of_lt (hp k hk).1 (hp k hk).2,Pa h3 hM hk (hp k hk),hA _ (kQ _ _)];exact aEF h3 L rows _ hM hw
theorem Yc{hi lo:Nat} (t at':List Int) (ha:at'.length=hi+lo) :
  dtz q (2 ^ lo) (smr q (2 ^ hi) (wgL q (at'.take hi)) (rwl (2 ^ lo) (2 ^ hi) t) (2 ^ lo)) (wgL q (at'.drop hi))=Sum.ext (zat t) (zat at') (hi+lo) % (q:Int):=by
 have hl1:(at'.take hi).length=hi:=by rw[List.length_take];omega
 have hl2:(at'.drop hi).length=lo:=by rw[List.length_drop];omega
 unfold dtz Sum.ext;refine jK ?_;have hP:(2:Nat) ^ (hi+lo)=2 ^ hi*2 ^ lo:=Nat.pow_add _ _ _;rw[hP,aAf,Dom.sm_swap];refine Dom.sm_congr (fun j hj=>?_)
 have e1:(q:Int)∣zat (smr q (2 ^ hi) (wgL q (at'.take hi)) (rwl (2 ^ lo) (2 ^ hi) t) (2 ^ lo)) j-Dom.sm (fun i=>Sum.wgt (zat at') hi i*zat t (i*2 ^ lo+j)) (2 ^ hi):=by
  unfold smr;rw[kZ _ _ _ hj];unfold dtz
  have e:(q:Int)∣Dom.sm (fun i=>zat (wgL q (at'.take hi)) i*zat (pgc (rwl (2 ^ lo) (2 ^ hi) t) j) i) (2 ^ hi)-Dom.sm (fun i=>Sum.wgt (zat at') hi i*zat t (i*2 ^ lo+j)) (2 ^ hi):=by
   refine Dom.sm_congr (fun i hi'=>?_)
   have g1:zat (wgL q (at'.take hi)) i=Sum.wgt (zat at') hi i % (q:Int):=by
    unfold wgL;rw[hl1,kZ _ _ _ hi']
    congr 1
    refine Oz i (fun k hk=>?_);unfold zat;rw[List.getElem?_take_of_lt hk]
   have g2:zat (pgc (rwl (2 ^ lo) (2 ^ hi) t) j) i=zat t (i*2 ^ lo+j):=by rw[Qh j (by rw[Ap];exact hi'),Qx hi' hj,Nat.mul_comm]
   rw[g1,g2,<- Int.sub_mul];exact Int.dvd_mul_of_dvd_left (Bx _ _)
  have e':(q:Int)∣(Dom.sm (fun i=>zat (wgL q (at'.take hi)) i*zat (pgc (rwl (2 ^ lo) (2 ^ hi) t) j) i) (2 ^ hi)) % (q:Int)-Dom.sm (fun i=>zat (wgL q (at'.take hi)) i*zat (pgc (rwl (2 ^ lo) (2 ^ hi) t) j) i) (2 ^ hi):=Bx _ _;have:=Int.dvd_add e' e
  rwa [show ∀ a b c:Int,a-b+(b-c)=a-c from fun a b c=>by omega] at this
 have e2:zat (wgL q (at'.drop hi)) j=Sum.wgt (fun k=>zat at' (hi+k)) lo j % (q:Int):=by
  unfold wgL;rw[hl2,kZ _ _ _ hj]
  congr 1
  refine Oz j (fun k hk=>?_);unfold zat;rw[List.getElem?_drop]
 have e3:Dom.sm (fun i=>zat t (i*2 ^ lo+j)*Sum.wgt (zat at') (hi+lo) (i*2 ^ lo+j)) (2 ^ hi)=Dom.sm (fun i=>Sum.wgt (zat at') hi i*zat t (i*2 ^ lo+j)) (2 ^ hi)*Sum.wgt (fun k=>zat at' (hi+k)) lo j:=by rw[Int.mul_comm,<- Dom.sm_mul];refine Dom.sm_same (fun i _=>?_);rw[Ur (zat at') hi lo i j hj];rw[Int.mul_comm (zat t _),Int.mul_assoc,Int.mul_comm (Sum.wgt (zat at') hi i),Int.mul_assoc,Int.mul_comm (zat t _)]
 rw[e3,e2];generalize zat (smr q (2 ^ hi) (wgL q (at'.take hi)) (rwl (2 ^ lo) (2 ^ hi) t) (2 ^ lo)) j=a at *;generalize Dom.sm (fun i=>Sum.wgt (zat at') hi i*zat t (i*2 ^ lo+j)) (2 ^ hi)=b at *;generalize Sum.wgt (fun k=>zat at' (hi+k)) lo j=c at *;have h1:(q:Int)∣a*(c % (q:Int)-c):=Int.dvd_mul_of_dvd_right (Bx _ _);have h2:(q:Int)∣(a-b)*c:=Int.dvd_mul_of_dvd_left e1;have:=Int.dvd_add h1 h2
 rwa [show a*(c % (q:Int)-c)+(a-b)*c=a*(c % (q:Int))-b*c from by rw[Int.mul_sub,Int.sub_mul];omega] at this
end Go.Proofs.YtkdndfbfmchcpaaGreatDoor
