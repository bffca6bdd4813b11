
import Derived.Test.YtkdndfbfmchcpaaGreatDoorTgAL
import Derived.Test.YtkdndfbfmchcpaaGreatDoorTgAM
set_option maxRecDepth 1000000
set_option maxHeartbeats 8000000
namespace Go.Proofs.YtkdndfbfmchcpaaGreatDoor
variable {W w:World}{a b:Value}{g:Nat}
open Go.RowKit
def dub (a b:Value):Nat->Value
 | 0=>a
 | _=>b
theorem Ka (w:World) (t:TypeId) (a b:Value):(w.alloc (.cells #[a,b] t)).rowIs w.heap.size t 2 (dub a b) :=
 ⟨#[a,b],heap_alloc_new w _,rfl,fun i hi=>by
  have:i=0∨i=1:=by omega
  rcases this with rfl | rfl <;> rfl⟩
theorem Ah{t:TypeId} (h:W.rowIs g t 2 (dub a b)):W.heap[g]?=some (.cells #[a,b] t (0,0)):=by
 obtain⟨cs,h1,h2,h4⟩:=h;rw[h1]
 have e:cs=#[a,b]:=by
  apply Array.ext
  ·simpa using h2
  ·intro i hi hi2;have h0:i=0∨i=1:=by simp at hi2;omega
   have h5:=h4 i (by omega);rw[Array.getElem?_eq_getElem hi] at h5;have h6:=Option.some.inj h5;rw[h6];rcases h0 with rfl | rfl <;> rfl
 rw[e]
theorem Af{t:TypeId} (h:W.rowIs g t 2 (dub a b)) (a':Value):(W.setCell ⟨g,0,none⟩ a').rowIs g t 2 (dub a' b) :=
 World.rowIs.congr (World.rowIs.set h 0 a') (fun j hj=>by
  have:j=0∨j=1:=by omega
  rcases this with rfl | rfl <;> rfl)
theorem Ag{t:TypeId} (h:W.rowIs g t 2 (dub a b)) (b':Value):(W.setCell ⟨g,1,none⟩ b').rowIs g t 2 (dub a b') :=
 World.rowIs.congr (World.rowIs.set h 1 b') (fun j hj=>by
  have:j=0∨j=1:=by omega
  rcases this with rfl | rfl <;> rfl)
theorem As{P:Program}{fn:Func}{p u:Tmp}{ty:TypeId} (h:fn.results=#[.cell p ty,.tmp u]) (tmps:Array Value) (w:World) (g:Nat) (tt:TypeId) (cs:Array Value) (fr:Nat × Nat) (d:TypeDesc)
  (hp:tmps.getD p undef=.pointer (some ⟨g,0,none⟩)) (hg:w.heap[g]?=some (.cells cs tt fr))
  (hu:P.underlying ty=some d) (hd:(match d with | .struct _ | .array _ _=>true | _=>false)=true) (hi:(P.info? ty).map (·.size)=some cs.size) :
  (results fn tmps).run P w=.ok (.tuple #[.agg cs,tmps.getD u undef]) w:=by
 have hp':tmps[p]?.getD undef=.pointer (some ⟨g,0,none⟩):=by simpa using hp
 simp[results,h,hp',asAddr,run_loadVar_row w g tt ty cs fr d hg hu hd hi]
theorem Md (w:World) (x y z:Int):(w.alloc (.cells #[.int .i64 x,.int .i64 y,.int .i64 z] 3)).ownsRow w.heap.size 3 1 (.slice (some ⟨w.heap.size,0,none⟩) 3 3) [x,y,z].length ([x,y,z].map (Value.int .i64)) :=
 ⟨by simp,.inr ⟨w.heap.size,3,#[.int .i64 x,.int .i64 y,.int .i64 z],rfl,Nat.le_refl _,heap_alloc_new w _,Nat.le_refl _,by unfold maxLen;omega,rfl,by simp⟩⟩
theorem aAQ (w:World) (x y z:Int):Lst (w.alloc (.cells #[.int .i64 x,.int .i64 y,.int .i64 z] 3)).heap.size (w.alloc (.cells #[.int .i64 x,.int .i64 y,.int .i64 z] 3)) (some ⟨w.heap.size,0,none⟩) 3 [x,y,z]:=by
 obtain⟨a,c,e,h⟩:=kY (Md w x y z);cases e;exact h
theorem aCI (p:Nat) (wide:Int) (lys:List (List GatZ)):lbz p wide lys 0=[(p:Int),wide,(lys.length:Int)]:=by simp[lbz,lyl]
theorem aCJ{p:Nat}{wide:Int}{lys:List (List GatZ)}{k:Nat} (h:k<lys.length):lbz p wide lys (k+1)=lbz p wide lys k++[((lyt lys k).length:Int)]++gtl (lyt lys k) (lyt lys k).length:=by
 unfold lbz;rw[Mc h];simp
theorem aCK (gs:List GatZ):gtl gs 0=[]:=by simp[gtl]
theorem aCL{base n r:Nat}{v:Value}{xs:List Value} (h:w.ownsRow base 3 1 v n xs) (hg:w.grownBy W (some r)) (hr:r<base):W.ownsRow base 3 1 v n xs :=
 h.kept (row:=some r) hg (by
  cases hv:v.ownBlock with
  | none=>simp
  | some g=>have:=(h.lt g hv).1;simp;omega)
theorem Me{W':World}{c:Nat} (h:w.grownBy W (some c)) (hb:Below w.heap.size W W'):w.grownBy W' (some c) :=
 ⟨hb.os.trans h.os,hb.tape.trans h.tape,hb.output.trans h.output,Nat.le_trans h.size hb.size,fun k hk hne=>(hb.block k hk).trans (h.block k hk hne)⟩
theorem Ts (q n k:Nat) (D:List Int):(drs q n k D).length=k:=kQ _ _
theorem Xe (c:Nat) (N:Int) (w:World) (hN:N<1∨65536<N) :
  Calls Tryz.prog 57 #[.pointer (some ⟨c,0,none⟩),.int .i64 N] w fun e w'=>e=.returned (.slice none 0 0)/\Below w.heap.size w w':=by
 have HSZ:=hid (Ij N w);rw[show decide (1<=N/\N<=65536)=false from by simp;omega] at HSZ;clear hN;go_enter Tryz.func57,Tryz.ntmps57;go_wp2_with fail;refine HSZ.out.mono ?_;rintro e w0 ⟨rfl,rfl⟩;go_wp2_with fail;go_ret;exact⟨rfl,Below.refl _ _⟩
theorem Xf (N0 q n c v:Nat) (D:List Int) (w:World) (hP:PCh N0 q n w c D) (hD:Dig D) (hv:v<=65536) :
  Calls Tryz.prog 57 #[.pointer (some ⟨c,0,none⟩),.int .i64 (v:Int)] w fun e w'=>∃ a cp,e=.returned (.slice a v cp)/\NumL w' a cp (drs q n v D)/\PCh N0 q n w' c (drw q n v D)/\w.grownBy w' (some c):=by
 by_cases h:1<=v
 ·exact Xd N0 q n c v D w hP hD h hv
 ·obtain rfl:v=0:=by omega
  refine (Xe c ((0:Nat):Int) w (Or.inl (by omega))).mono ?_;rintro e w' ⟨rfl,hb⟩;exact⟨none,0,rfl,aCC _,hP.below hb,qJ hb⟩
theorem Mf (N0 q n v d sp b cL co:Nat) (wide:Int) (aL ao:Option Addr) (lys:List (List GatZ)) (outs:List Int) (w:World) (ok:SpgOk q n d) (hsp:SpgAt w sp b q n d) (hN0:N0<=w.heap.size) (hsN:sp<N0) (hbN:b<N0) (h23:23<=q) (h4:q<=2147483647) (hT:TabAt 1 Lib.deBruijn64tab w) (hS:SzC wide lys) (hB:CirB lys) (hl:LstGG w.heap.size w aL cL lys) (hv:v<=6) (ho:outs.length=2 ^ v) (fo:Fits outs) (lo:Lst w.heap.size w ao co outs) :
  Calls Tryz.prog 23 #[.pointer (some ⟨sp,0,none⟩),.agg #[.int .i64 wide,.slice aL lys.length cL],.slice ao outs.length co] w fun e w'=>∃ r az cz,e=.returned (.tuple #[.pointer (some ⟨r,0,none⟩),.slice az v cz])/\w.heap.size<=r/\PCh N0 q n w' r (drw q n v (digl q n (2 :: (lbz q wide lys lys.length++outs))))/\NumL w' az cz (drs q n v (digl q n (2 :: (lbz q wide lys lys.length++outs))))/\Below w.heap.size w w':=by
 have h64:=Dn hv;obtain⟨nL,hnL⟩:=exE (lys.length);obtain⟨no,hno⟩:=exE (outs.length);obtain⟨W0,hW0⟩:=exE (w.alloc (.cells #[.int .i64 wide,.slice aL nL cL] 24));obtain⟨hb0,hs0,hz0⟩:=qV hW0;obtain⟨G,hG⟩:=exE (w.heap.size);rw[<- hG] at hs0;have HGE:=hid hG;have HB0:=hid hb0;have hGL:G<W0.heap.size:=by omega
 have HC:Hid (∀ W,Below W0.heap.size W0 W->W.cell? ⟨G,0,none⟩=some (.int .i64 wide)/\W.cell? ⟨G,1,none⟩=some (.slice aL nL cL)):=fun W hW=>by have e:=(hW.block G hGL).trans hs0;exact⟨by simp[World.cell?,e],by simp[World.cell?,e]⟩
 have HBW:Hid (∀ W,Below W0.heap.size W0 W->Below w.heap.size w W):=fun W hW=>HB0.out.trans (hW.mono HB0.out.size)
 have HRW:Hid (∀ i,i<nL->∃ b1 o1 ak ck,aL=some ⟨b1,o1,none⟩/\∀ W,Below W0.heap.size W0 W->W.cell? ⟨b1,o1+i,none⟩=some (.slice ak (lyt lys i).length ck)/\LstG w.heap.size W ak ck (lyt lys i)):=fun i hi=>by obtain⟨b1,o1,ak,ck,e1,e2,e3,e4⟩:=hl.row i (by omega);exact⟨b1,o1,ak,ck,e1,fun W hW=>⟨((HBW.out W hW).cell (p:=⟨b1,o1+i,none⟩) e2).trans e3,e4.below (HBW.out W hW)⟩⟩
 have HLO:Hid (∀ W,Below W0.heap.size W0 W->Lst w.heap.size W ao co outs):=fun W hW=>lo.below (HBW.out W hW);have HLB:Hid (∀ i,i<=nL->(lbz q wide lys i).length<=1547):=fun i hi=>aEq hS (by omega);have HLS:Hid (∀ i,i<nL->(lyt lys i).length<=64/\lbz q wide lys (i+1)=lbz q wide lys i++[((lyt lys i).length:Int)]++gtl (lyt lys i) (lyt lys i).length):=fun i hi=>⟨by rw[(hS.own (show i<lys.length by omega)).1];exact Dn (hS.bn (show i+1<=lys.length by omega)).2,aCJ (by omega)⟩
 have HL0:Hid (lbz q wide lys 0=[(q:Int),wide,(nL:Int)]):=by unfold Hid;rw[hnL];exact aCI _ _ _
 have HFL:Hid (Fits (lbz q wide lys nL++outs)/\(lbz q wide lys nL++outs).length<=1611):=⟨yU (aCE h4 hS hB (by omega)) fo,by rw[List.length_append];have:=HLB.out nL (Nat.le_refl _);omega⟩
 have HBG:Hid (∀ W a c,Below W0.heap.size W0 W->Lst W.heap.size W a c (lbz q wide lys nL++outs)->Calls Tryz.prog 11 #[.pointer (some ⟨sp,0,none⟩),.slice a (lbz q wide lys nL++outs).length c] W fun e w'=>∃ r,e=.returned (.pointer (some ⟨r,0,none⟩))/\W.heap.size<=r/\PCh N0 q n w' r (digl q n (2 :: (lbz q wide lys nL++outs)))/\Below W.heap.size W w'):=fun W a c hW hL=>Lz N0 q n d sp b c a _ W ok (hsp.below (HBW.out W hW) hsp.lt hsp.ltb) (by have:=(HBW.out W hW).size;omega) hsN hbN (by have:=HFL.out.2;omega) HFL.out.1 hL;have HWD:Hid (∀ W,Below W0.heap.size W0 W->Calls Tryz.prog 58 #[.int .i64 (no:Int)] W fun e w'=>e=.returned (.int .i64 (v:Int))/\w'=W):=fun W hW=>Ig no v W hv (hno.trans ho) (xU hT (HBW.out W hW));have hD0:Dig (digl q n (2 :: (lbz q wide lys nL++outs))):=zY (by omega) h4 _ _;have HDR:Hid (∀ (W:World) (r:Nat),PCh N0 q n W r (digl q n (2 :: (lbz q wide lys nL++outs)))->Calls Tryz.prog 57 #[.pointer (some ⟨r,0,none⟩),.int .i64 (v:Int)] W fun e w'=>∃ a cp,e=.returned (.slice a v cp)/\NumL w' a cp (drs q n v (digl q n (2 :: (lbz q wide lys nL++outs))))/\PCh N0 q n w' r (drw q n v (digl q n (2 :: (lbz q wide lys nL++outs))))/\W.grownBy w' (some r)):=fun W r h=>Xf N0 q n r v _ W h hD0 (by omega);have HFI:Hid (∀ W,Below W0.heap.size W0 W->Calls Tryz.prog 6 #[.pointer (some ⟨sp,0,none⟩)] W fun e w'=>e=.returned (.pointer (some ⟨b,0,none⟩))/\w'=W):=fun W hW=>zK q n d b sp W (hsp.below (HBW.out W hW) hsp.lt hsp.ltb);have HPI:Hid (∀ W,Below W0.heap.size W0 W->Calls Tryz.prog 44 #[.pointer (some ⟨b,0,none⟩)] W fun e w'=>e=.returned (.int .i64 (q:Int))/\w'=W):=fun W hW=>Ny q b W (hsp.below (HBW.out W hW) hsp.lt hsp.ltb).p;have hnL8:nL<=8:=by have:=hS.2.1.2;omega
 have HNO:Hid (no=outs.length/\no<=64):=⟨hno,by omega⟩
 rw[<- hno,<- hnL];generalize digl q n (2 :: (lbz q wide lys nL++outs))=D0 at *;clear hnL ok hsp hT hB hl fo lo hb0 hs0 hz0 ho hno hG hS hD0 h64;go_enter Tryz.func23,Tryz.ntmps23;go_wp2_with fail;rw[<- HGE.out,<- hW0];clear hW0;have HBD:Hid (Below W0.heap.size W0 W0.drew):=(Below.refl _ _).drew;have HSB:Hid (∀ W,Below W0.heap.size W0 W->W.cell? ⟨G,0,none⟩=some (.int .i64 wide)/\W.cell? ⟨G,1,none⟩=some (.slice aL nL cL)):=HC;have HBA:Hid (Below W0.heap.size W0 ((W0.alloc (.cells #[.int .i64 (q:Int),.int .i64 wide,.int .i64 (nL:Int)] 3)).drew)):=((Below.refl _ _).alloc (Nat.le_refl _) _).drew;refine wp_region_held_drew (S:=fun W=>W.cell? ⟨G,0,none⟩=some (.int .i64 wide)/\W.cell? ⟨G,1,none⟩=some (.slice aL nL cL)) (by kernel_rfl) (HSB.out _ HBD.out) (fun hHeld=>?_);refine Aa 0 (.pointer (some ⟨sp,0,none⟩)) ?_;simp only[Ac];refine Aa 3 (.pointer (some ⟨G,0,none⟩)) ?_;simp only[Ac];refine Aa 4 (.int .i64 wide) ?_;simp only[Ac];refine Aa 5 (.pointer (some ⟨G,1,none⟩)) ?_;simp only[Ac];refine Aa 6 (.slice aL nL cL) ?_;simp only[Ac];refine Aa 7 (.int .i64 (nL:Int)) ?_;simp only[Ac];refine Ab 1 fun K' hK'=>?_;go_simp;refine (HFI.out _ HBD.out).mono ?_;rintro e w3 ⟨rfl,hw⟩;have hw1:=hw.symm;subst hw1;clear hw;refine hK'.out _ _ (HSB.out _ HBD.out) (fun hHeld=>?_);clear hK' K';refine Ab 2 fun K' hK'=>?_;go_simp;refine (HPI.out _ HBD.out).mono ?_;rintro e w3 ⟨rfl,hw⟩;have hw1:=hw.symm;subst hw1;clear hw;refine hK'.out _ _ (HSB.out _ HBD.out) (fun hHeld=>?_);clear hK' K';refine Ab 8 fun K' hK'=>?_;go_simp;refine hK'.out _ _ (HSB.out _ HBA.out) (fun hHeld=>?_);clear hK' K';refine Aa 9 (.slice (some ⟨W0.heap.size,0,none⟩) 3 3) ?_;simp only[Ac];refine wpAnyH_done (by kernel_rfl) ?_ _
 have HST:Hid (World.ownsRow ((W0.alloc (.cells #[.int .i64 (q:Int),.int .i64 wide,.int .i64 (nL:Int)] 3)).drew) W0.heap.size 3 1 (.slice (some ⟨W0.heap.size,0,none⟩) 3 3) (lbz q wide lys 0).length ((lbz q wide lys 0).map (Value.int .i64))/\Below W0.heap.size W0 ((W0.alloc (.cells #[.int .i64 (q:Int),.int .i64 wide,.int .i64 (nL:Int)] 3)).drew)):=by unfold Hid;rw[HL0.out];exact⟨xV (Md W0 _ _ _) (Below.refl _ _).drew,HBA.out⟩
 obtain⟨k0,k1⟩:=HC.out _ HBA.out;clear HBA HBD HSB;generalize (W0.alloc (.cells #[.int .i64 (q:Int),.int .i64 wide,.int .i64 (nL:Int)] 3)).drew=WA at *;go_wp2_with fail;clear k0 k1;go_loopw [8,10,12,25,36] (fun lv _ _ iv _ wr=>∃ i:Nat,i<=nL/\iv=.int .i64 (i:Int)/\Hid (wr.ownsRow W0.heap.size 3 1 lv (lbz q wide lys i).length ((lbz q wide lys i).map (Value.int .i64))/\Below W0.heap.size W0 wr)) (fun _ _ _ iv _ _=>nL-(intOf iv).toNat)
 case atStart=>exact⟨0,by omega,rfl,HST⟩
 case round =>
  obtain⟨i,hi,rfl,hI⟩:=hrel;by_cases hlt:i<nL
  ·have hlt2:(i:Int)<(nL:Int):=by omega
   have hks:IntKind.i64.wrap ((i:Int)+1)=(i:Int)+1:=by rw[IntKind.wrap_i64];omega
   obtain⟨b1,o1,ak,ck,rfl,hrow⟩:=HRW.out i hlt;have HROW:=hid hrow;obtain⟨hg64,hsc⟩:=HLS.out i hlt;have HSC:=hid hsc;have HLL:Hid ((lbz q wide lys i).length<=17592186044000):=by have:=HLB.out i hi;unfold Hid;omega
   have HLK:=hid (HLB.out i hi);have HO:=hid hI.out.1;have HBI:=hid hI.out.2;obtain⟨gs,hgs⟩:=exE (lyt lys i);rw[<- hgs] at hg64 HROW HSC;obtain⟨lk,hlk⟩:=exE (lbz q wide lys i);rw[<- hlk] at HSC HLL HLK HO;obtain⟨NG,hNG⟩:=exE (gs.length);have HNG:=hid hNG;rw[<- hNG] at HROW HSC hg64;obtain⟨k0,k1⟩:=HC.out wr HBI.out;have x1:=(HROW.out wr HBI.out).1;have HO2:Hid ((wr.alloc (.cells #[.int .i64 (NG:Int)] 3)).ownsRow W0.heap.size 3 1 _ lk.length (lk.map (Value.int .i64))):=HO.out.alloc _;have HCC:Hid ((wr.alloc (.cells #[.int .i64 (NG:Int)] 3)).cell? ⟨wr.heap.size,0,none⟩=some (.int .i64 (NG:Int))):=by unfold Hid;simp
   have HSS:Hid (W0.heap.size<=(wr.alloc (.cells #[.int .i64 (NG:Int)] 3)).heap.size):=by have:=HBI.out.size;unfold Hid;simp;omega
   have HB2:Hid (Below W0.heap.size W0 (wr.alloc (.cells #[.int .i64 (NG:Int)] 3))):=HBI.out.alloc HBI.out.size _;clear hI hrow hsc hgs hlk hNG HO;go_wp2_with (at_builtin;refine Lx (wr.alloc (.cells #[.int .i64 (NG:Int)] 3)) W0.heap.size wr.heap.size (NG:Int) rfl _ _ rfl _ rfl lk HO2.out rfl HCC.out HLL.out HSS.out ?_);intro v5 w5 ho5 _ _ hb5
   have HR5:Hid (w5.ownsRow W0.heap.size 3 1 v5 (lk++[(NG:Int)]++gtl gs 0).length ((lk++[(NG:Int)]++gtl gs 0).map (Value.int .i64))/\Below W0.heap.size W0 w5):=by unfold Hid;rw[aCK,List.append_nil,List.length_append,List.map_append];exact⟨ho5,HB2.out.trans hb5⟩
   clear ho5 hb5 HO2 HCC HSS HB2 k0 k1 x1;go_wp2_with fail;go_loopw [8,12,36] (fun lv _ kv wk=>∃ k:Nat,k<=NG/\kv=.int .i64 (k:Int)/\Hid (wk.ownsRow W0.heap.size 3 1 lv (lk++[(NG:Int)]++gtl gs k).length ((lk++[(NG:Int)]++gtl gs k).map (Value.int .i64))/\Below W0.heap.size W0 wk)) (fun _ _ kv _=>NG-(intOf kv).toNat)
   case atStart=>exact⟨0,by omega,rfl,HR5⟩
   case round =>
    obtain⟨k,hk,rfl,hJ⟩:=hrel;obtain⟨wk,hwk⟩:=exE (wr);have HO:=hid hJ.out.1;have HBI:=hid hJ.out.2;obtain⟨k0,k1⟩:=HC.out _ HBI.out;obtain⟨x1,hgl⟩:=HROW.out _ HBI.out;by_cases hlk:k<NG
    ·have hlk2:(k:Int)<(NG:Int):=by omega
     have hks2:IntKind.i64.wrap ((k:Int)+1)=(k:Int)+1:=by rw[IntKind.wrap_i64];omega
     obtain⟨b2,o2,rfl,hb2,g1,g2,g3⟩:=hgl.row k (by rw[<- HNG.out];exact hlk);have HGS:Hid (gtl gs (k+1)=gtl gs k++[(gat gs k).kind,(gat gs k).a,(gat gs k).b]):=Mb (by rw[<- HNG.out];exact hlk);have HGN:Hid ((gtl gs k).length<=192):=by unfold Hid;rw[Qp k (by rw[<- HNG.out];omega)];omega
     obtain⟨L1,hL1⟩:=exE (lk++[(NG:Int)]++gtl gs k);have HL1N:Hid (L1.length<=1800):=by unfold Hid;rw[hL1,List.length_append,List.length_append];have:=HLK.out;have:=HGN.out;simp;omega
     rw[<- hL1] at HO;have HL1:=hid hL1;generalize (gat gs k).kind=y1 at *;generalize (gat gs k).a=y2 at *;generalize (gat gs k).b=y3 at *;have HW3B:Hid (Below W0.heap.size W0 ((wr.alloc (.cells #[.int .i64 y1,.int .i64 y2,.int .i64 y3] 61)).alloc (.cells #[.int .i64 y1,.int .i64 y2,.int .i64 y3] 3))):=(HBI.out.alloc HBI.out.size _).alloc (by have:=HBI.out.size;simp;omega) _;have HO3:Hid (World.ownsRow ((wr.alloc (.cells #[.int .i64 y1,.int .i64 y2,.int .i64 y3] 61)).alloc (.cells #[.int .i64 y1,.int .i64 y2,.int .i64 y3] 3)) W0.heap.size 3 1 _ L1.length (L1.map (Value.int .i64))):=(HO.out.alloc _).alloc _
     have HL3:Hid (Lst ((wr.alloc (.cells #[.int .i64 y1,.int .i64 y2,.int .i64 y3] 61)).alloc (.cells #[.int .i64 y1,.int .i64 y2,.int .i64 y3] 3)).heap.size ((wr.alloc (.cells #[.int .i64 y1,.int .i64 y2,.int .i64 y3] 61)).alloc (.cells #[.int .i64 y1,.int .i64 y2,.int .i64 y3] 3)) (some ⟨wr.heap.size+1,0,none⟩) 3 [y1,y2,y3]):=by unfold Hid;have:=aAQ (wr.alloc (.cells #[.int .i64 y1,.int .i64 y2,.int .i64 y3] 61)) y1 y2 y3;simpa using this
     clear hJ hgl hL1 HO hwk;go_wp2_with (at_builtin;refine Av ((wr.alloc (.cells #[.int .i64 y1,.int .i64 y2,.int .i64 y3] 61)).alloc (.cells #[.int .i64 y1,.int .i64 y2,.int .i64 y3] 3)) W0.heap.size _ rfl _ _ rfl _ rfl L1 [y1,y2,y3] HO3.out (some ⟨wr.heap.size+1,0,none⟩) 3 rfl (by have:=HL1N.out;simp;omega) HW3B.out.size HL3.out ?_);intro v6 w6 ho6 hb6
     have HR6:Hid (w6.ownsRow W0.heap.size 3 1 v6 (lk++[(NG:Int)]++gtl gs (k+1)).length ((lk++[(NG:Int)]++gtl gs (k+1)).map (Value.int .i64))/\Below W0.heap.size W0 w6):=by unfold Hid;rw[HGS.out,<- List.append_assoc,<- HL1.out,List.length_append,List.map_append];exact⟨ho6,HW3B.out.trans hb6⟩
     clear ho6 hb6 HO3 HL3 HW3B HGS HL1;go_wp2_with fail;go_roundw
     case rel=>exact⟨k+1,by omega,by go_num,HR6⟩
     case measure=>simp[intOf];omega
    ·obtain rfl:k=NG:=by omega
     have hlk2:¬ (k:Int)<(k:Int):=by omega
     have hO7:=HO.out;rw[<- HSC.out] at hO7;have HR7:=hid (And.intro hO7 HBI.out);clear hO7;clear hJ hgl HO hwk;go_wp2_with fail;go_roundw
     case rel=>exact⟨i+1,by omega,by go_num,HR7⟩
     case measure=>simp[intOf];omega
  ·obtain rfl:i=nL:=by omega
   have hlt2:¬ (i:Int)<(i:Int):=by omega
   have HO:=hid hI.out.1;have HBI:=hid hI.out.2;obtain⟨k0,k1⟩:=HC.out wr HBI.out;have HLO2:=hid (HLO.out wr HBI.out);obtain⟨lk,hlk⟩:=exE (lbz q wide lys i);rw[<- hlk] at HO HBG HFL;clear hI HRW HLS HL0 HLO HLB;go_wp2_with (at_builtin;refine Av wr W0.heap.size w.heap.size rfl _ _ rfl _ rfl lk outs HO.out ao co (by rw[<- HNO.out.1];rfl) (by have:=HFL.out.2;rw[List.length_append] at this;omega) HBI.out.size HLO2.out ?_);intro v6 w6 ho6 hb6;have HB6:Hid (Below W0.heap.size W0 w6):=HBI.out.trans hb6;rw[<- hlk] at ho6;rw[<- List.length_append,<- List.map_append] at ho6;obtain⟨a6,c6,rfl,hl6⟩:=kY ho6;have HBX:=hid (HBG.out w6 a6 c6 HB6.out hl6);obtain⟨n6,hn6⟩:=exE ((lk++outs).length);rw[<- hn6] at HBX ⊢;clear ho6 hb6 hl6 hn6 HO HBG HFL hlk k0 k1 HLO2;go_wp2_with fail;refine HBX.out.mono ?_;rintro e w7 ⟨r,rfl,hr7,hR7,hb7⟩;have HB7:Hid (Below W0.heap.size W0 w7):=HB6.out.trans (hb7.mono HB6.out.size);have HR7:=hid hR7;have HRW7:Hid (w.heap.size<=r):=by have:=(HBW.out w6 HB6.out).size;unfold Hid;omega
   have HR0:Hid (W0.heap.size<=r):=by have:=HB6.out.size;unfold Hid;omega
   clear hr7 hR7 hb7 HBX HBI HB6;have HWX:=hid (HWD.out w7 HB7.out);have HDX:=hid (HDR.out w7 r HR7.out);go_wp2_with fail;refine HWX.out.mono ?_;rintro e w8 ⟨rfl,hw⟩;have hw1:=hw.symm;subst hw1;clear hw HWX;go_wp2_with fail;refine HDX.out.mono ?_;rintro e w9 ⟨az,cz,rfl,hnz,hp9,hg9⟩;have HE:Hid (PCh N0 q n w9 r (drw q n v D0)/\NumL w9 az cz (drs q n v D0)/\Below w.heap.size w w9):=⟨hp9,hnz,HBW.out w9 (HB7.out.trans (Bv hg9 HR0.out HB7.out.size))⟩
   clear hp9 hnz hg9 HDX;go_wp2_with fail;go_ret2;exact⟨r,az,cz,rfl,HRW7.out,HE.out⟩
end Go.Proofs.YtkdndfbfmchcpaaGreatDoor
