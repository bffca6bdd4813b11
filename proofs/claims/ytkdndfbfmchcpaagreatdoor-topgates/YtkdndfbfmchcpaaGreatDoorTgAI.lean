
import Derived.Test.YtkdndfbfmchcpaaGreatDoorTgAH
import Derived.Maps.AppendAt
set_option maxRecDepth 1000000
set_option maxHeartbeats 8000000
namespace Go.Proofs.YtkdndfbfmchcpaaGreatDoor
variable {W w:World}{n:Nat}{r:List Int}{u:Value}
open Go.RowKit
theorem aC6{base X:Nat}{v:Value}{rs:List (List Int)} (hO:OwnR base W v rs) (hu:SlR W r u) (hX:W.heap[X]?=some (.cells #[u] 25 (0,0))) (hlen:rs.length<=1000000) (hbase:base<=W.heap.size) :
  ∃ v' w5,(Builtin.append_ #[36,36] 36 #[v,.slice (some ⟨X,0,none⟩) 1 1]).run Tryz.prog W=.ok v' w5/\OwnR base w5 v' (rs++[r])/\W.grownBy w5 v.ownBlock:=by
 obtain⟨i0,hi,hz0,hz1,hz2⟩:=info_parts Tryz.infoSl;have howb:=hO.own;obtain⟨vals,h1,h2⟩:=hO;have hvl:vals.length=rs.length:=by have:=h1.1;omega
 obtain⟨v',w5,hrun,hown2,hgrow,_,_⟩:=run_append_own_at W base 36 36 25 i0 _ 1 24 Tryz.underlying36 hi hz0 hz1 hz2 rfl (by decide) v _ _ h1 ⟨X,0,none⟩ 1 1 [u] rfl (by
  intro j t hj
  match j,hj with
  | 0,hj=>simp at hj;subst hj;simp[Addr.add,World.cell?,hX]) (by intro t ht;simp at ht;subst ht;exact hu.one) (by unfold maxLen;omega) (by omega) hbase
 have hN:∀ b,b<W.heap.size->By W b->w5.heap[b]?=W.heap[b]?:=fun b hb hn=>hgrow.block b hb (fun e=>(howb b e.symm).2.2 hn);refine⟨v',w5,hrun,⟨vals++[u],by rw[List.length_append];exact hown2,fun j hj=>?_⟩,hgrow⟩;rw[List.length_append] at hj;rw[Hp rs [r] j];by_cases hjr:j<rs.length
 ·rw[if_pos hjr,List.getElem?_append_left (by omega)];obtain⟨t,e1,e2⟩:=h2 j hjr;exact⟨t,e1,e2.blocks hgrow.size hN⟩
 ·rw[if_neg hjr,List.getElem?_append_right (by omega),hvl];obtain e:j=rs.length:=by simp at hj;omega
  subst e;rw[Nat.sub_self];exact⟨u,rfl,hu.blocks hgrow.size hN⟩
theorem Tj{g:Nat}{l:List Int} (h:ArrI w g 3 n (zat l)) (hl:l.length=n):SlR w l (.slice (some ⟨g,0,none⟩) n n):=by
 subst hl;exact⟨_,_,rfl,⟨fun k hk=>⟨g,0,rfl,h.lt,by rw[Nat.zero_add];exact h.cell hk⟩,Nat.le_refl _,fun e=>by cases e⟩,fun _=>⟨g,0,rfl,_,3,(0,0),h.heap,by decide,by decide,by decide,by decide,by decide,by decide⟩⟩
theorem aC7 (hu:SlR W r u):OwnR W.heap.size (W.alloc (.cells #[u] 25)) (.slice (some ⟨W.heap.size,0,none⟩) 1 1) [r] :=
 ⟨[u],⟨by simp,.inr ⟨W.heap.size,1,#[u],rfl,Nat.le_refl _,heap_alloc_new W _,by simp,by decide,by simp,by simp⟩⟩,fun j hj=>by
  obtain rfl:j=0:=by simp at hj;exact hj
  exact⟨u,rfl,hu.keep ((Below.refl _ _).alloc (Nat.le_refl _) _)⟩⟩
theorem Qm{a:Option Addr}{c p k:Nat}{lys:List (List GatZ)}{inputs:List Int} (h:LstR w.heap.size w a c (gva p lys inputs n)) (hk:k<n):∃ b o ak ck,a=some ⟨b,o,none⟩/\b<w.heap.size/\w.cell? ⟨b,o+k,none⟩=some (.slice ak (gvs p lys inputs k).length ck)/\Lst w.heap.size w ak ck (gvs p lys inputs k):=by
 obtain⟨b,o,ak,ck,h1,h2,h4,h5⟩:=h.row k (by rw[Fs];exact hk);rw[aDF hk] at h4 h5;exact⟨b,o,ak,ck,h1,h2,h4,h5⟩
theorem Qn (p b cL ci:Nat) (wide:Int) (aL ai:Option Addr) (lys:List (List GatZ)) (inputs:List Int) (w:World) (hIT:InT p b w) (hS:SzC wide lys) (hG:GtC wide lys) (hin:inputs.length=2 ^ wide.toNat) (hl:LstGG w.heap.size w aL cL lys) (hi:Lst w.heap.size w ai ci inputs) (hf:Fits inputs) :
  Calls Tryz.prog 22 #[.pointer (some ⟨b,0,none⟩),.agg #[.int .i64 wide,.slice aL lys.length cL],.slice ai inputs.length ci] w fun e w'=>∃ v,e=.returned v/\OwnR w.heap.size w' v (gva p lys inputs (lys.length+1))/\Below w.heap.size w w':=by
 have hmx:Tryz.prog.follows .mixedOrders=true:=by kernel_rfl
 obtain⟨W0,hW0⟩:=exE (w.alloc (.cells #[.int .i64 wide,.slice aL lys.length cL] 24));obtain⟨hb0,hs0,hz0⟩:=qV hW0;obtain⟨G,hGe⟩:=exE (w.heap.size);have HGE:=hid hGe;rw[<- hGe] at hs0;have hm64:inputs.length<=64:=by rw[hin];exact Dn (by have:=hS.1;omega)
 obtain⟨m,hmm⟩:=exE (inputs.length);have HM:=hid hmm;have hn8:=hS.2.1.2;have HIN:=hid hin;have HSC:=hid hS;have HGC:=hid hG;have HLL:=hid hl;have HIL:=hid hi;have HFI:=hid hf;have HII:=hid hIT;have HG0:Hid (gvs p lys inputs 0=ls (fun i=>zat inputs i % (p:Int)) inputs.length):=rfl;have HB0:=hid hb0;have HS0:=hid hs0;have HOF:Hid (∀ (x:Int) (W:World),Below w.heap.size w W->-9223372036854775808<=x->x<=9223372036854775807->Calls Tryz.prog 19 #[.pointer (some ⟨b,0,none⟩),.int .i64 x] W fun e w'=>e=.returned (.int .i64 (x % (p:Int)))/\w'=W):=fun x W hW h1 h2=>zZ p b x W hIT.h3 hIT.hm (hIT.toInF.below hW).cell h1 h2;obtain⟨n,hnn⟩:=exE (lys.length);have HN:=hid hnn;have hmk2:=fun w=>run_make_row' (P:=Tryz.prog) 25 3 (.int .i64 0) 8 Tryz.underlying25 Tryz.infoInt rfl .i64 .i64 m (by omega) (by omega) w;rw[<- hmm] at hm64 ⊢;rw[<- hnn] at hn8 hW0 ⊢;have HAM:Hid (ArrI (W0.alloc (.cells (madeCells #[.int .i64 0] m) 3)) W0.heap.size 3 m (fun _=>0)):=World.rowIs_made _ _ _ _;have HBM:Hid (Below w.heap.size w (W0.alloc (.cells (madeCells #[.int .i64 0] m) 3))):=hb0.alloc hb0.size _;have HZ0:Hid (W0.heap.size=G+1):=by unfold Hid;omega
 obtain⟨F,hF⟩:∃ F:Nat->Int,F=fun i=>zat inputs i % (p:Int):=⟨_,rfl⟩
 have HFK:Hid (∀ k,zat inputs k % (p:Int)=F k):=fun k=>by rw[hF]
 have HFF:=hid hF;have HWG:=hid hW0
 have HSK:Hid (∀ W,Below W0.heap.size W0 W->W.cell? ⟨G,0,none⟩=some (.int .i64 wide)/\W.cell? ⟨G,1,none⟩=some (.slice aL n cL)):=fun W hW=>by rw[<- hnn] at hs0;have e1:=(hW.block G (by omega)).trans hs0;exact⟨by simp[World.cell?,e1],by simp[World.cell?,e1]⟩
 have HBK:Hid (∀ W,Below W0.heap.size W0 W->Below w.heap.size w W):=fun W hW=>hb0.trans (hW.mono hb0.size);clear hS hG hl hi hf hin hmm hnn hb0 hs0 hz0 hIT hGe hF hW0;go_enter Tryz.func22,Tryz.ntmps22;go_wp2_with fail;rw[<- HGE.out,<- HWG.out];rw[HZ0.out] at HAM;clear HWG;have HBM2:Hid (Below W0.heap.size W0 (W0.alloc (.cells (madeCells #[.int .i64 0] m) 3))):=(Below.refl _ _).alloc (Nat.le_refl _) _;generalize W0.alloc (.cells (madeCells #[.int .i64 0] m) 3)=W1 at *;go_loopw [8,9,17] (fun _ _ iv wr=>∃ k:Nat,k<=m/\iv=.int .i64 (k:Int)/\Hid (ArrI wr (G+1) 3 m (fll F (fun _=>0) k)/\Below W0.heap.size W0 wr)) (fun _ _ iv _=>m-(intOf iv).toNat)
 case atStart=>exact⟨0,by omega,rfl,by rw[jJ];exact HAM.out,HBM2.out⟩
 case round =>
  obtain⟨k,hk,rfl,hI⟩:=hrel;by_cases hlt:k<m
  ·have hlt2:(k:Int)<(m:Int):=by omega
   have hks:IntKind.i64.wrap ((k:Int)+1)=(k:Int)+1:=by rw[IntKind.wrap_i64];omega
   have hbw:=HBK.out wr hI.out.2;obtain⟨b1,o1,rfl,hb1,hx1⟩:=(HIL.out.row k (by rw[<- HM.out];exact hlt))
   have hx2:=(hbw.cell (p:=⟨b1,o1+k,none⟩) hb1).trans hx1;obtain⟨f1,f2⟩:=HFI.out.all k;have HO:=hid (HOF.out (zat inputs k) wr hbw f1 f2);rw[HFK.out k] at HO;have c1:=hI.out.1.cell hlt;have y1:=hI.out.1.frozen k;have HA2:=hid hI.out.1.next
   have HBL:=hid (hI.out.2.setCell (p:=⟨G+1,k,none⟩) (by have:=HZ0.out;show _<=G+1;omega) (.int .i64 (F k)));generalize F k=y at *;generalize fll F (fun _=>0) k k=y0 at *;generalize zat inputs k=x at *;clear hI hbw hx1 f1 f2;go_wp2_with fail;refine HO.out.mono ?_;rintro e w1 ⟨rfl,hw⟩;have hw1:=hw.symm;subst hw1;clear hw;go_wp2_with fail;go_roundw
   case rel=>exact⟨k+1,by omega,by go_num,HA2.out,HBL.out⟩
   case measure=>simp[intOf];omega
  ·obtain rfl:k=m:=by omega
   have hlt2:¬ (k:Int)<(k:Int):=by omega
   have hA:ArrI wr (G+1) 3 k (zat (gvs p lys inputs 0)):=hI.out.1.congr (fun j hj=>by
    rw[HG0.out,kZ _ _ _ (by rw[<- HM.out];exact hj),zV hj]
    exact HFK.out j |>.symm)
   have hSL:=Tj hA (by rw[HG0.out,kQ,<- HM.out]);have HW2:=hid hI.out.2;have hbw2:=hI.out.2.alloc hI.out.2.size (.cells #[.slice (some ⟨G+1,0,none⟩) k k] 25)
   have HO0:Hid (OwnR W0.heap.size (wr.alloc (.cells #[.slice (some ⟨G+1,0,none⟩) k k] 25)) (.slice (some ⟨wr.heap.size,0,none⟩) 1 1) (gva p lys inputs 1)):=by have:=(aC7 hSL).mono hI.out.2.size;unfold Hid;rw[show gva p lys inputs 1=[gvs p lys inputs 0] from by simp[gva]];exact this
   have HBW2:=hid hbw2;obtain⟨x0,x1⟩:=HSK.out wr hI.out.2;obtain⟨x2,x3⟩:=HSK.out _ hbw2;clear hA hI hSL hbw2 HAM HBM HBM2 HFK HFF HOF HG0;go_wp2_with fail;generalize wr.alloc (.cells #[.slice (some ⟨G+1,0,none⟩) k k] 25)=W2 at *;generalize wr.heap.size=Z at *;clear x0 x1 x2 x3;go_loopw [10,11,34] (fun ov _ iv wr=>∃ i:Nat,i<=n/\iv=.int .i64 (i:Int)/\Hid (OwnR W0.heap.size wr ov (gva p lys inputs (i+1))/\Below W0.heap.size W0 wr)) (fun _ _ iv _=>n-(intOf iv).toNat)
   case atStart=>exact⟨0,by omega,rfl,HO0.out,HBW2.out⟩
   case round =>
    obtain⟨i,hi,rfl,hJ⟩:=hrel;by_cases hit:i<n
    ·have hit2:(i:Int)<(n:Int):=by omega
     have his:IntKind.i64.wrap ((i:Int)+1)=(i:Int)+1:=by rw[IntKind.wrap_i64];omega
     obtain⟨ao,co,hov,hlo⟩:=hJ.out.1.lst;rw[Fs] at hov;subst hov;obtain⟨bo,oo,ak,ck,rfl,hbo,hco,hlk⟩:=Qm hlo (show i<i+1 by omega);have hij:¬ ((i:Int)+1<=(i:Int)):=by omega
     have HNI:Hid (i<lys.length):=by unfold Hid;rw[<- HN.out];exact hit
     have hbw:=HBK.out wr hJ.out.2;have HBW:=hid hbw;have HGL:Hid ((gvs p lys inputs i).length=2 ^ bnn wide lys i):=Pp HSC.out HIN.out (by have:=HNI.out;omega);have HBD:Hid (Below wr.heap.size wr wr.drew):=(Below.refl _ _).drew;have HSB:Hid (∀ W,Below wr.heap.size wr W->(W.cell? ⟨G,0,none⟩=some (.int .i64 wide)/\W.cell? ⟨G,1,none⟩=some (.slice aL n cL))/\W.cell? ⟨bo,oo+i,none⟩=some (.slice ak (gvs p lys inputs i).length ck)):=fun W hW=>⟨HSK.out W (hJ.out.2.trans (hW.mono hJ.out.2.size)),(hW.cell (p:=⟨bo,oo+i,none⟩) hbo).trans hco⟩
     have HLV:Hid (∀ W,Below wr.heap.size wr W->Calls Tryz.prog 24 #[.pointer (some ⟨b,0,none⟩),.agg #[.int .i64 wide,.slice aL n cL],.int .i64 (i:Int)] W fun e w'=>∃ ag cg,e=.returned (.agg #[.pointer (some ⟨b,0,none⟩),.slice ag (lyt lys i).length cg,.int .i64 (bnn wide lys i:Int)])/\LstG W.heap.size W ag cg (lyt lys i)/\Below W.heap.size W w'):=fun W hW=>by have hw2:=hbw.trans (hW.mono hbw.size);have:=Th b i cL wide aL lys W HSC.out HNI.out (HLL.out.step hw2) (xU HII.out.tab hw2);rw[<- HN.out] at this;exact this
     have HVL:Hid (∀ W ag cg,Below wr.heap.size wr W->LstG W.heap.size W ag cg (lyt lys i)->Calls Tryz.prog 56 #[.agg #[.pointer (some ⟨b,0,none⟩),.slice ag (lyt lys i).length cg,.int .i64 (bnn wide lys i:Int)],.slice ak (gvs p lys inputs i).length ck] W fun e w'=>∃ O,e=.returned (.slice (some ⟨O,0,none⟩) (lyt lys i).length (lyt lys i).length)/\ArrI w' O 3 (lyt lys i).length (zat (gvs p lys inputs (i+1)))/\Below W.heap.size W w'):=fun W ag cg hW hg=>by have hw2:=hbw.trans (hW.mono hbw.size);refine (Ti p b cg ck _ ag ak (lyt lys i) (gvs p lys inputs i) W HII.out.h3 HII.out.hm (HII.out.toInF.below hw2).cell (by rw[(HSC.out.own HNI.out).1];exact Dn (HSC.out.bn (by have:=HNI.out;omega)).2) hg ((hlk.below hW).mono hW.size) (Kq HII.out.h3 HII.out.hm _ _ _) (fun q hq=>by rw[HGL.out];exact HGC.out i HNI.out q hq)).mono ?_;rintro e w' ⟨O,h1,_,h2,h4⟩;exact⟨O,h1,h2,h4⟩
     have HLE:Hid (∀ W O,ArrI W O 3 (lyt lys i).length (zat (gvs p lys inputs (i+1)))->SlR W (gvs p lys inputs (i+1)) (.slice (some ⟨O,0,none⟩) (lyt lys i).length (lyt lys i).length)):=fun W O h=>Tj h (Yy _ _ _);have HPU:Hid (∀ (W:World) (u:Value) (X:Nat),Below wr.heap.size wr W->SlR W (gvs p lys inputs (i+1)) u->W.heap[X]?=some (.cells #[u] 25 (0,0))->∃ v' w5,(Builtin.append_ #[36,36] 36 #[.slice (some ⟨bo,oo,none⟩) (i+1) co,.slice (some ⟨X,0,none⟩) 1 1]).run Tryz.prog W=.ok v' w5/\OwnR W0.heap.size w5 v' (gva p lys inputs (i+1)++[gvs p lys inputs (i+1)])/\W.grownBy w5 (Value.slice (some ⟨bo,oo,none⟩) (i+1) co).ownBlock):=fun W u X hW hu hX=>aC6 (hJ.out.1.keep hW) hu hX (by rw[Fs];omega) (Nat.le_trans hJ.out.2.size hW.size);have HNX:Hid (∀ (W w5:World) (v':Value),Below wr.heap.size wr W->OwnR W0.heap.size w5 v' (gva p lys inputs (i+1)++[gvs p lys inputs (i+1)])->W.grownBy w5 (Value.slice (some ⟨bo,oo,none⟩) (i+1) co).ownBlock->OwnR W0.heap.size w5 v' (gva p lys inputs (i+1+1))/\Below W0.heap.size W0 w5):=fun W w5 v' hW ho hg=>⟨by rw[aB0];exact ho,(hJ.out.2.trans (hW.mono hJ.out.2.size)).grown hg (Nat.le_trans hJ.out.2.size hW.size) (fun q hq=>(hJ.out.1.own q hq).1)⟩
     generalize (gvs p lys inputs i).length=L at *;generalize (lyt lys i).length=M at *;clear hJ hbw hlo hco hlk;go_wp2_with fail;refine jQ (C:=fun W=>(W.cell? ⟨G,0,none⟩=some (.int .i64 wide)/\W.cell? ⟨G,1,none⟩=some (.slice aL n cL))/\W.cell? ⟨bo,oo+i,none⟩=some (.slice ak L ck)) (st:=[11]) hmx ?_;refine psU 0 (.slice (some ⟨bo,oo,none⟩) (i+1) co) rfl (fun W _=>by go_simp) (fun _=>HSB.out _ HBD.out) ?_;refine psU 1 (.pointer (some ⟨b,0,none⟩)) rfl (fun W _=>by go_simp) (fun _=>HSB.out _ HBD.out) ?_;refine psT 2 (.agg #[.int .i64 wide,.slice aL n cL]) rfl (fun W hC=>by (obtain⟨⟨x1,x2⟩,x3⟩:=hC);go_simp) (HSB.out _ HBD.out) ?_;refine psU 3 (.int .i64 (i:Int)) rfl (fun W _=>by go_simp) (fun _=>HSB.out _ HBD.out) ?_;refine psU 5 (.slice (some ⟨bo,oo,none⟩) (i+1) co) rfl (fun W _=>by go_simp) (fun _=>HSB.out _ HBD.out) ?_;refine psU 6 (.int .i64 (i:Int)) rfl (fun W _=>by go_simp) (fun _=>HSB.out _ HBD.out) ?_;refine psU 7 (.pointer (some ⟨bo,oo+i,none⟩)) rfl (fun W _=>by go_simp) (fun _=>HSB.out _ HBD.out) ?_;refine psT 8 (.slice ak L ck) rfl (fun W hC=>by (obtain⟨⟨x1,x2⟩,x3⟩:=hC);go_simp) (HSB.out _ HBD.out) ?_;refine Ad 4 fun K' hK'=>?_;go_simp;refine (HLV.out _ HBD.out).mono ?_;rintro e w3 ⟨ag,cg,rfl,hg3,hb3⟩;have hBW3:=HBD.out.trans hb3;have hS3:=HSB.out w3 hBW3;have HVA:=hid (HVL.out w3 ag cg hBW3 (hg3.step hb3));clear hg3 hb3;refine hK' _ _ ⟨fun _=>hS3,?_⟩;clear hK' K';refine Ad 9 fun K' hK'=>?_;go_simp;refine (HVA.out).mono ?_;rintro e w4 ⟨O,rfl,hA4,hb4⟩;have hBW4:=hBW3.trans (hb4.mono hBW3.size);have hS4:=HSB.out w4 hBW4;have HSL:=hid (HLE.out w4 O hA4);clear hA4 hb4 HVA hBW3 hS3;refine hK' _ _ ⟨fun _=>hS4,?_⟩;clear hK' K';have hBW5:=hBW4.alloc hBW4.size (.cells #[.slice (some ⟨O,0,none⟩) M M] 25);have hS5:=HSB.out _ hBW5;refine Ad 10 fun K' hK'=>?_;go_simp;refine hK' _ _ ⟨fun _=>hS5,?_⟩;clear hK' K';obtain⟨v',w5,hrun,hown,hgr⟩:=HPU.out _ _ _ hBW5 (HSL.out.keep ((Below.refl _ _).alloc (Nat.le_refl _) _)) (heap_alloc_new w4 _);have HE5:=hid (HNX.out _ _ _ hBW5 hown hgr);clear hown hgr hS4 hS5 hBW4 hBW5;refine Ad 11 fun K' hK'=>?_;refine xX _ _ 36 36 rfl _ _ v' rfl rfl hrun ?_;refine hK' _ _ ⟨fun h=>absurd (h 11 (by simp)) (by decide),?_⟩;clear hK' K';refine Ad 12 fun K' hK'=>?_;go_simp;refine hK' _ _ ⟨fun h=>absurd (h 11 (by simp)) (by decide),?_⟩;clear hK' K';refine kJ (by kernel_rfl) ?_ _;go_wp2_with fail;go_roundw
     case rel=>exact⟨i+1,by omega,by go_num,HE5.out⟩
     case measure=>simp[intOf];omega
    ·obtain rfl:i=n:=by omega
     have hit2:¬ (i:Int)<(i:Int):=by omega
     have HE:Hid (OwnR w.heap.size _ _ (gva p lys inputs (i+1))/\Below w.heap.size w _):=⟨hJ.out.1.mono HB0.out.size,HBK.out _ hJ.out.2⟩
     clear hJ;go_wp2_with fail;go_ret;exact⟨_,rfl,HE.out⟩
noncomputable def vle (wide:Int) (lys:List (List GatZ)) (m:Nat):Int:=if flt wide lys=0 then (if m=2 ^ wide.toNat then 0 else 2) else flt wide lys
noncomputable def gvr (p:Nat) (wide:Int) (lys:List (List GatZ)) (inputs:List Int):List (List Int):=if vle wide lys inputs.length=0 then gva p lys inputs (lys.length+1) else []
theorem Gu{wide:Int}{lys:List (List GatZ)}{m:Nat} (h:vle wide lys m=0):SzC wide lys/\GtC wide lys/\m=2 ^ wide.toNat:=by
 unfold vle at h;by_cases h1:flt wide lys=0
 ·rw[if_pos h1] at h;by_cases h2:m=2 ^ wide.toNat
  ·exact⟨(Br h1).1,(Br h1).2,h2⟩
  ·rw[if_neg h2] at h;omega
 ·rw[if_neg h1] at h;exact absurd h h1
theorem Bj (p b cL ci:Nat) (wide:Int) (aL ai:Option Addr) (lys:List (List GatZ)) (inputs:List Int) (w:World) (hIT:InT p b w) (hB:CirB lys) (hl:LstGG w.heap.size w aL cL lys) (hi:Lst w.heap.size w ai ci inputs) (hf:Fits inputs) :
  Calls Tryz.prog 8 #[.pointer (some ⟨b,0,none⟩),.agg #[.int .i64 wide,.slice aL lys.length cL],.slice ai inputs.length ci] w fun e w'=>∃ v,e=.returned (.tuple #[v,Nq (vle wide lys inputs.length)])/\OwnR w.heap.size w' v (gvr p wide lys inputs)/\Below w.heap.size w w':=by
 obtain⟨W0,hW0⟩:=exE (w.alloc (.cells #[.int .i64 wide,.slice aL lys.length cL] 24));obtain⟨hb0,hs0,hz0⟩:=qV hW0;obtain⟨G,hG⟩:=exE (w.heap.size);rw[<- hG] at hs0
 have HC:Hid (∀ W,Below W0.heap.size W0 W->W.cell? ⟨G,0,none⟩=some (.int .i64 wide)/\W.cell? ⟨G,1,none⟩=some (.slice aL lys.length cL)):=fun W hW=>by have e1:=(hW.block G (Array.getElem?_eq_some_iff.1 hs0).1).trans hs0;exact⟨by simp[World.cell?,e1],by simp[World.cell?,e1]⟩
 have HFO:=hid (Iu wide cL aL lys W0 hB (hl.step hb0));have HB0:=hid hb0;have HWG:=hid hW0;have HG:=hid hG;obtain⟨c0,c1⟩:=HC.out W0 (Below.refl _ _);by_cases hF:flt wide lys=0
 ·rw[hF] at HFO;have hv6:wide.toNat<=6:=by have:=(Br hF).1.1;omega
  obtain⟨v,hv⟩:∃ v:Nat,wide=(v:Int):=⟨wide.toNat,by have:=(Br hF).1.1;omega⟩
  have hsh:=Zk (v:=v) (by omega);have hvt:wide.toNat=v:=by omega
  have HFZ:=hid (Br hF);by_cases hM:inputs.length=2 ^ wide.toNat
  ·have HV0:Hid (vle wide lys inputs.length=0):=by unfold Hid vle;rw[if_pos hF,if_pos hM]
   have HR:Hid (gvr p wide lys inputs=gva p lys inputs (lys.length+1)):=by unfold Hid gvr;rw[if_pos HV0.out]
   rw[HV0.out,HR.out]
   have HVO:Hid (∀ W,Below W0.heap.size W0 W->Calls Tryz.prog 22 #[.pointer (some ⟨b,0,none⟩),.agg #[.int .i64 wide,.slice aL lys.length cL],.slice ai inputs.length ci] W fun e w'=>∃ v,e=.returned v/\OwnR W.heap.size w' v (gva p lys inputs (lys.length+1))/\Below W.heap.size W w'):=fun W hW=>by have hw:=hb0.trans (hW.mono hb0.size);exact Qn p b cL ci wide aL ai lys inputs W (hIT.below hw) HFZ.out.1 HFZ.out.2 hM (hl.step hw) ((hi.below hw).mono hw.size) hf
   rw[hvt] at hM;have hm2:((inputs.length:Int) != wrap64 (2 ^ min v 64))=false:=by rw[hsh,hM];simp
   subst hv;generalize gva p lys inputs (lys.length+1)=Y at *;generalize lys.length=n at *;generalize inputs.length=m at *;clear HFZ HV0 HR hF hIT hB hl hi hf hW0 hs0 hz0 hb0 hG hM hsh hvt hv6;go_enter Tryz.func8,Tryz.ntmps8;go_wp2_with fail;rw[<- HG.out,<- HWG.out];clear HWG;refine HFO.out.mono ?_;rintro e w1 ⟨rfl,hb1⟩;rw[Du];have HVX:=hid (HVO.out w1 hb1);obtain⟨d0,d1⟩:=HC.out w1 hb1;have HB1:Hid (Below w.heap.size w w1):=HB0.out.trans (hb1.mono HB0.out.size);clear hb1 c0 c1;go_wp2_with fail;refine HVX.out.mono ?_;rintro e w2 ⟨v2,rfl,ho,hb2⟩;have HE:Hid (OwnR w.heap.size w2 v2 Y/\Below w.heap.size w w2):=⟨ho.mono HB1.out.size,HB1.out.trans (hb2.mono HB1.out.size)⟩
   clear ho hb2;go_wp2_with fail;go_ret2;exact⟨v2,rfl,HE.out⟩
  ·have HV0:Hid (vle wide lys inputs.length=2):=by unfold Hid vle;rw[if_pos hF,if_neg hM]
   have HR:Hid (gvr p wide lys inputs=[]):=by unfold Hid gvr;rw[HV0.out];rfl
   rw[HV0.out,HR.out];rw[hvt] at hM;have hm2:((inputs.length:Int) != wrap64 (2 ^ min v 64))=true:=by rw[hsh,bne_iff_ne];omega
   subst hv;generalize lys.length=n at *;generalize inputs.length=m at *;clear HFZ HV0 HR hF hIT hB hl hi hf hW0 hs0 hz0 hb0 hG hM hsh hvt hv6;go_enter Tryz.func8,Tryz.ntmps8;go_wp2_with fail;rw[<- HG.out,<- HWG.out];clear HWG;refine HFO.out.mono ?_;rintro e w1 ⟨rfl,hb1⟩;rw[Du];obtain⟨d0,d1⟩:=HC.out w1 hb1;have HB1:Hid (Below w.heap.size w w1):=HB0.out.trans (hb1.mono HB0.out.size);clear hb1 c0 c1;go_wp2_with fail;go_ret2;exact⟨_,rfl,OwnR.nil _ _,HB1.out⟩
 ·have HV0:Hid (vle wide lys inputs.length=flt wide lys):=by unfold Hid vle;rw[if_neg hF]
  have HR:Hid (gvr p wide lys inputs=[]):=by unfold Hid gvr;rw[HV0.out,if_neg hF]
  rw[HV0.out,HR.out];rw[Oj hF] at HFO ⊢;generalize flt wide lys=V at *;generalize lys.length=n at *;generalize inputs.length=m at *;clear HV0 HR hF hIT hB hl hi hf hW0 hs0 hz0 hb0 hG;go_enter Tryz.func8,Tryz.ntmps8;go_wp2_with fail;rw[<- HG.out,<- HWG.out];clear HWG;refine HFO.out.mono ?_;rintro e w1 ⟨rfl,hb1⟩;have HB1:Hid (Below w.heap.size w w1):=HB0.out.trans (hb1.mono HB0.out.size);clear hb1 c0 c1;go_wp2_with fail;go_ret2;exact⟨_,rfl,OwnR.nil _ _,HB1.out⟩
end Go.Proofs.YtkdndfbfmchcpaaGreatDoor
