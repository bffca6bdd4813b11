
import Derived.Test.YtkdndfbfmchcpaaGreatDoorGuE
set_option maxRecDepth 1000000
set_option maxHeartbeats 8000000
namespace Go.Proofs.YtkdndfbfmchcpaaGreatDoor
variable {A B i k m n p q:Nat}{D inputs t xs z:List Int}{r wide:Int}
open Go.RowKit
def lnz (p:Nat) (t x y:List Int) (m:Nat):List Int:=ls (fun k=>Sum.ext (zat t) (zat (onl p x y (k:Int))) m % (p:Int)) (m+1)
def tld (p:Nat) (gs:List GatZ) (t:List Int) (n:Nat) (z xs:List Int):List Int:=ls (fun k=>ptz p gs t n z (xs++[(k:Int)])) 3
theorem Xg (p b n cg cb cx cy:Nat) (ag ab ax ay:Option Addr) (ng:Nat) (t x y:List Int) (w:World) (hIT:InT p b w) (hn:n<=6) (ht:t.length=2 ^ n) (hx:x.length=n) (hy:y.length=n) (ft:Fits t) (fx:Fits x) (fy:Fits y) (lt:Lst w.heap.size w ab cb t) (rx:RowB w.heap.size w ax x) (ry:RowB w.heap.size w ay y) :
  Calls Tryz.prog 61 #[.agg #[.pointer (some ⟨b,0,none⟩),.slice ag ng cg,.int .i64 (n:Int)],.slice ab t.length cb,.slice ax n cx,.slice ay n cy] w fun e w'=>∃ O,e=.returned (.slice (some ⟨O,0,none⟩) (n+1) (n+1))/\w.heap.size<=O/\ArrI w' O 3 (n+1) (zat (lnz p t x y n))/\Below w.heap.size w w':=by
 have h3:=hIT.h3;have hm:=hIT.hm;have hp:=hIT.cell;obtain⟨W0,hW0⟩:=exE (w.alloc (.cells #[.pointer (some ⟨b,0,none⟩),.slice ag ng cg,.int .i64 (n:Int)] 84));obtain⟨hb0,hs0,hz0⟩:=qV hW0;obtain⟨G,hG⟩:=exE (w.heap.size);rw[<- hG] at hs0;have HGE:=hid hG;have HB0:=hid hb0;have HGL:Hid (G<W0.heap.size):=by unfold Hid;omega
 have HC:Hid (∀ W,Below W0.heap.size W0 W->W.cell? ⟨G,0,none⟩=some (.pointer (some ⟨b,0,none⟩))/\W.cell? ⟨G,1,none⟩=some (.slice ag ng cg)/\W.cell? ⟨G,2,none⟩=some (.int .i64 (n:Int))/\W.cell? ⟨b,0,none⟩=some (.int .i64 p)):=fun W hW=>by have e:=(hW.block G HGL.out).trans hs0;have hb:=HB0.out.trans (hW.mono HB0.out.size);exact⟨by simp[World.cell?,e],by simp[World.cell?,e],by simp[World.cell?,e],(hb.cell (p:=⟨b,0,none⟩) (qK hp)).trans hp⟩
 obtain⟨O,hO⟩:=exE (w.heap.size+1);have HOE:Hid (O=W0.heap.size):=by unfold Hid;omega
 have HOW:Hid (w.heap.size<=O):=by unfold Hid;omega
 have HBW:Hid (∀ W,Below W0.heap.size W0 W->Below w.heap.size w W):=fun W hW=>HB0.out.trans (hW.mono HB0.out.size);obtain⟨F,hF⟩:∃ F:Nat->Int,F=zat (lnz p t x y n):=⟨_,rfl⟩
 obtain⟨nn,hnn⟩:=exE (n+1);obtain⟨nt,hnt⟩:=exE (t.length)
 have HFE:Hid (∀ k,k<nn->Sum.ext (zat t) (zat (onl p x y (k:Int))) n % (p:Int)=F k):=fun k hk=>by rw[hF];unfold lnz;rw[kZ _ _ _ (by omega)]
 have HBT0:Hid (∀ W (k:Nat),k<=100->Below W0.heap.size W0 W->Calls Tryz.prog 62 #[.agg #[.pointer (some ⟨b,0,none⟩),.slice ag ng cg,.int .i64 (n:Int)],.slice ax n cx,.slice ay n cy,.int .i64 (k:Int)] W fun e w'=>∃ O,e=.returned (.slice (some ⟨O,0,none⟩) n n)/\W.heap.size<=O/\ArrI w' O 3 n (zat (onl p x y (k:Int)))/\Below W.heap.size W w'):=fun W k hk hW=>by have hw:=HBW.out W hW;have h:=Dy p b cx cy (.slice ag ng cg) (.int .i64 (n:Int)) ax ay x y (k:Int) W h3 hm (HC.out W hW).2.2.2 (by omega) (by omega) fx fy ⟨by omega,by omega⟩ ((rx.below hw).mono hw.size) ((ry.below hw).mono hw.size);rw[hx,hy] at h;exact h
 have HEX0:Hid (∀ W P (k:Nat),k<nn->Below W0.heap.size W0 W->ArrI W P 3 n (zat (onl p x y (k:Int)))->Calls Tryz.prog 26 #[.pointer (some ⟨b,0,none⟩),.slice ab nt cb,.slice (some ⟨P,0,none⟩) n n] W fun e w'=>e=.returned (.int .i64 (F k))/\Below W.heap.size W w'):=fun W P k hk hW hA=>by
  have hw:=HBW.out W hW;have hl:(onl p x y (k:Int)).length=n:=by rw[Jz,hx]
  have h:=Gz p b n cb n ab (some ⟨P,0,none⟩) t (onl p x y (k:Int)) W (hIT.below hw) hn ht hl ft (Tq h3 hm _ _ _) ((lt.below hw).mono hw.size) (Cx hA hl).1.row;rw[hl,<- hnt] at h;rw[<- HFE.out k hk];exact h
 have hmk2:=fun w=>run_make_row' (P:=Tryz.prog) 25 3 (.int .i64 0) 8 Tryz.underlying25 Tryz.infoInt rfl .i64 .i64 nn (by omega) (by omega) w;have hw1:IntKind.i64.wrap ((n:Int)+1)=(nn:Int):=by rw[IntKind.wrap_i64];omega
 rw[<- hF,<- hnt,<- hnn];have hnn7:nn<=7:=by omega
 clear hp ft fx fy lt rx ry hF hnn hnt hs0 hb0 hz0 hG hIT ht hx hy;go_enter Tryz.func61,Tryz.ntmps61;go_wp2_with fail;rw[<- hO,<- HGE.out,<- hW0];clear hW0 hO;go_loopw [10,17] (fun _ iv wr=>∃ k:Nat,k<=nn/\iv=.int .i64 (k:Int)/\Hid (ArrI wr O 3 nn (fll F (fun _=>0) k)/\Below W0.heap.size W0 wr)) (fun _ iv _=>nn-(intOf iv).toNat)
 case atStart=>exact⟨0,by omega,rfl,by rw[jJ,HOE.out];exact World.rowIs_made _ _ _ _,(Below.refl _ _).alloc (Nat.le_refl _) _⟩
 case round =>
  obtain⟨k,hk,rfl,hI⟩:=hrel;by_cases hlt:k<nn
  ·have hlt2:(k:Int)<(nn:Int):=by omega
   have hks:IntKind.i64.wrap ((k:Int)+1)=(k:Int)+1:=by rw[IntKind.wrap_i64];omega
   have HWD0:Hid (Below W0.heap.size W0 wr.drew):=hI.out.2.drew;have HAD0:Hid (ArrI wr.drew O 3 nn (fll F (fun _=>0) k)):=hI.out.1.below ((Below.refl _ _).drew (w:=wr)) (by exact hI.out.1.lt)
   have HSB:Hid (∀ W,Below wr.drew.heap.size wr.drew W->W.cell? ⟨G,0,none⟩=some (.pointer (some ⟨b,0,none⟩))/\W.cell? ⟨G,1,none⟩=some (.slice ag ng cg)/\W.cell? ⟨G,2,none⟩=some (.int .i64 (n:Int))):=fun W hW=>by have h:=HC.out W (HWD0.out.trans (hW.mono HWD0.out.size));exact⟨h.1,h.2.1,h.2.2.1⟩
   have HS4:Hid (∀ W,Below wr.drew.heap.size wr.drew W->∀ u:Value,(W.setCell ⟨O,k,none⟩ u).cell? ⟨G,0,none⟩=some (.pointer (some ⟨b,0,none⟩))/\(W.setCell ⟨O,k,none⟩ u).cell? ⟨G,1,none⟩=some (.slice ag ng cg)/\(W.setCell ⟨O,k,none⟩ u).cell? ⟨G,2,none⟩=some (.int .i64 (n:Int))):=fun W hW u=>by have hw:=(HWD0.out.trans (hW.mono HWD0.out.size)).setCell (p:=⟨O,k,none⟩) (by show W0.heap.size<=O;have:=HOE.out;omega) u;have h:=HC.out _ hw;exact⟨h.1,h.2.1,h.2.2.1⟩
   have HAD:Hid (∀ W,Below wr.drew.heap.size wr.drew W->ArrI W O 3 nn (fll F (fun _=>0) k)):=fun W hW=>HAD0.out.below hW (by exact HAD0.out.lt);have HFIN:Hid (∀ W,Below wr.drew.heap.size wr.drew W->ArrI (W.setCell ⟨O,k,none⟩ (.int .i64 (F k))) O 3 nn (fll F (fun _=>0) (k+1))/\Below W0.heap.size W0 (W.setCell ⟨O,k,none⟩ (.int .i64 (F k)))):=fun W hW=>⟨(HAD.out W hW).next,(HWD0.out.trans (hW.mono HWD0.out.size)).setCell (p:=⟨O,k,none⟩) (by show W0.heap.size<=O;have:=HOE.out;omega) _⟩
   have HBT:Hid (∀ W (j:Nat),Below wr.drew.heap.size wr.drew W->Calls Tryz.prog 62 #[.agg #[.pointer (some ⟨b,0,none⟩),.slice ag ng cg,.int .i64 (n:Int)],.slice ax n cx,.slice ay n cy,.int .i64 (k:Int)] W fun e w'=>∃ O,e=.returned (.slice (some ⟨O,0,none⟩) n n)/\W.heap.size<=O/\ArrI w' O 3 n (zat (onl p x y (k:Int)))/\Below W.heap.size W w'):=fun W _ hW=>HBT0.out W k (by omega) (HWD0.out.trans (hW.mono HWD0.out.size));have HEX:Hid (∀ W P (j:Nat),k<nn->Below wr.drew.heap.size wr.drew W->ArrI W P 3 n (zat (onl p x y (k:Int)))->Calls Tryz.prog 26 #[.pointer (some ⟨b,0,none⟩),.slice ab nt cb,.slice (some ⟨P,0,none⟩) n n] W fun e w'=>e=.returned (.int .i64 (F k))/\Below W.heap.size W w'):=fun W P _ hk hW hA=>HEX0.out W P k hk (HWD0.out.trans (hW.mono HWD0.out.size)) hA;clear hI HAD0;go_wp2_with fail;refine wp_region_held_drew (S:=fun W=>(W.cell? ⟨G,0,none⟩=some (.pointer (some ⟨b,0,none⟩))/\W.cell? ⟨G,1,none⟩=some (.slice ag ng cg)/\W.cell? ⟨G,2,none⟩=some (.int .i64 (n:Int)))) (by kernel_rfl) (HSB.out _ (Below.refl _ _)) (fun hHeld=>?_);generalize wr.drew=WD at *;refine Aa 0 (.slice (some ⟨O,0,none⟩) nn nn) ?_;simp only[Ac];refine Aa 1 (.int .i64 (k:Int)) ?_;simp only[Ac];refine Aa 2 (.pointer (some ⟨G,0,none⟩)) ?_;simp only[Ac];refine Aa 3 (.pointer (some ⟨b,0,none⟩)) ?_;simp only[Ac];refine Aa 4 (.slice ab nt cb) ?_;simp only[Ac];refine Aa 5 (.agg #[.pointer (some ⟨b,0,none⟩),.slice ag ng cg,.int .i64 (n:Int)]) ?_;simp only[Ac];refine Aa 6 (.slice ax n cx) ?_;simp only[Ac];refine Aa 7 (.slice ay n cy) ?_;simp only[Ac];refine Aa 8 (.int .i64 (k:Int)) ?_;simp only[Ac];refine Ab 9 fun K' hK'=>?_;go_simp;refine (HBT.out _ k (Below.refl _ _)).mono ?_;rintro e w3 ⟨P3,rfl,hP3,hA3,hb3⟩;have HEX3:=hid (HEX.out w3 P3 k hlt hb3 hA3);clear hA3;refine hK'.out _ _ (HSB.out _ hb3) (fun hHeld=>?_);clear hK' K';refine Ab 10 fun K' hK'=>?_;go_simp;refine (HEX3.out).mono ?_;rintro e w4 ⟨rfl,hb4⟩;have HB4:Hid (Below WD.heap.size WD w4):=hb3.trans (hb4.mono hb3.size);have HAB:=hid (HAD.out w4 HB4.out);have c1:=HAB.out.cell hlt;have y1:=HAB.out.frozen k;generalize fll F (fun _=>0) k k=y0 at *;clear hb3 hb4;refine hK'.out _ _ (HSB.out _ HB4.out) (fun hHeld=>?_);clear hK' K';refine Aa 11 (.pointer (some ⟨O,k,none⟩)) ?_;simp only[Ac];refine Ab 12 fun K' hK'=>?_;go_simp;refine hK'.out _ _ (HS4.out _ HB4.out _) (fun hHeld=>?_);clear hK' K';refine wpAnyH_done (by kernel_rfl) ?_ _;have HE4:=hid (HFIN.out w4 HB4.out);clear HAB HAD HFIN c1 y1;go_wp2_with fail;go_roundw
   case rel=>exact⟨k+1,by omega,by go_num,HE4.out⟩
   case measure=>simp[intOf];omega
  ·obtain rfl:nn=k:=by omega
   have hlt2:¬ (nn:Int)<(nn:Int):=by omega
   have HE:Hid (ArrI wr O 3 nn F/\Below w.heap.size w wr):=⟨hI.out.1.congr (fun j hj=>zV hj),HBW.out _ hI.out.2⟩
   clear hI;go_wp2_with fail;go_ret;exact⟨O,rfl,HOW.out,HE.out⟩
theorem Tt (p b n cg cb cz cx:Nat) (ag ab az ax:Option Addr) (gs:List GatZ) (t z xs:List Int) (w:World) (hIT:InT p b w) (hn:n<=6) (ht:t.length=2 ^ n) (hgl:gs.length<=64) (hg:LstG w.heap.size w ag cg gs) (ho:∀ k,k<gs.length->0<=(gat gs k).a/\0<=(gat gs k).b) (hz:z.length<=60) (hx:xs.length+1<=2*n) (ft:Fits t) (fz:Fits z) (fx:Fits xs) (lt:Lst w.heap.size w ab cb t) (rz:RowB w.heap.size w az z) (lx:Lst w.heap.size w ax cx xs) :
  Calls Tryz.prog 59 #[.agg #[.pointer (some ⟨b,0,none⟩),.slice ag gs.length cg,.int .i64 (n:Int)],.slice ab t.length cb,.slice az z.length cz,.slice ax xs.length cx] w fun e w'=>∃ O,e=.returned (.slice (some ⟨O,0,none⟩) 3 3)/\w.heap.size<=O/\ArrI w' O 3 3 (zat (tld p gs t n z xs))/\Below w.heap.size w w':=by
 have hp:=hIT.cell;obtain⟨ng,hng⟩:=exE (gs.length);rw[<- hng];obtain⟨W0,hW0⟩:=exE (w.alloc (.cells #[.pointer (some ⟨b,0,none⟩),.slice ag ng cg,.int .i64 (n:Int)] 84));obtain⟨hb0,hs0,hz0⟩:=qV hW0;obtain⟨G,hG⟩:=exE (w.heap.size);rw[<- hG] at hs0;have HGE:=hid hG;have HB0:=hid hb0;have HGL:Hid (G<W0.heap.size):=by unfold Hid;omega
 have HC:Hid (∀ W,Below W0.heap.size W0 W->W.cell? ⟨G,0,none⟩=some (.pointer (some ⟨b,0,none⟩))/\W.cell? ⟨G,1,none⟩=some (.slice ag ng cg)/\W.cell? ⟨G,2,none⟩=some (.int .i64 (n:Int))/\W.cell? ⟨b,0,none⟩=some (.int .i64 p)):=fun W hW=>by have e:=(hW.block G HGL.out).trans hs0;have hb:=HB0.out.trans (hW.mono HB0.out.size);exact⟨by simp[World.cell?,e],by simp[World.cell?,e],by simp[World.cell?,e],(hb.cell (p:=⟨b,0,none⟩) (qK hp)).trans hp⟩
 obtain⟨O,hO⟩:=exE (w.heap.size+1);have HOE:Hid (O=W0.heap.size):=by unfold Hid;omega
 have HOW:Hid (w.heap.size<=O):=by unfold Hid;omega
 have HBW:Hid (∀ W,Below W0.heap.size W0 W->Below w.heap.size w W):=fun W hW=>HB0.out.trans (hW.mono HB0.out.size);obtain⟨F,hF⟩:∃ F:Nat->Int,F=zat (tld p gs t n z xs):=⟨_,rfl⟩
 obtain⟨nt,hnt⟩:=exE (t.length);obtain⟨nz,hnz⟩:=exE (z.length);obtain⟨nx,hnx⟩:=exE (xs.length)
 have HFE:Hid (∀ k:Nat,k<3->ptz p gs t n z (xs++[(k:Int)])=F k):=fun k hk=>by rw[hF];unfold tld;rw[kZ _ _ _ hk]
 have HPT0:Hid (∀ W a c (k:Nat),k<3->Below W0.heap.size W0 W->Lst W.heap.size W a c (xs++[(k:Int)])->Calls Tryz.prog 108 #[.agg #[.pointer (some ⟨b,0,none⟩),.slice ag ng cg,.int .i64 (n:Int)],.slice ab nt cb,.slice az nz cz,.slice a (xs++[(k:Int)]).length c] W fun e w'=>e=.returned (.int .i64 (F k))/\Below W.heap.size W w'):=fun W a c k hk hW hl=>by have hw:=HBW.out W hW;have h:=aC5 p b n cg cb cz c ag ab az a gs t z (xs++[(k:Int)]) W (hIT.below hw) hn ht hgl (hg.step hw) ho hz (by rw[List.length_append];exact hx) ft fz (yU fx (Tn ⟨by omega,by omega⟩)) ((lt.below hw).mono hw.size) ((rz.below hw).mono hw.size) hl;rw[<- hng,<- hnt,<- hnz] at h;rw[<- HFE.out k hk];exact h
 have HLX:Hid (∀ W,Below W0.heap.size W0 W->Lst W.heap.size W ax cx xs):=fun W hW=>(lx.below (HBW.out W hW)).mono (HBW.out W hW).size;have hmk2:=fun w=>run_make_row' (P:=Tryz.prog) 25 3 (.int .i64 0) 8 Tryz.underlying25 Tryz.infoInt rfl .i64 .i64 3 (by omega) (by omega) w;simp only[show ((3:Nat):Int)=3 from rfl] at hmk2;have HNX:Hid (nx=xs.length/\xs.length<=12):=⟨hnx,by omega⟩
 rw[<- hF,<- hnt,<- hnz,<- hnx];clear hp ft fz fx lt rz lx hF hnx hnz hnt hng hs0 hb0 hz0 hG hIT ht hx hz hg ho hgl;go_enter Tryz.func59,Tryz.ntmps59;go_wp2_with fail;rw[<- hO,<- HGE.out,<- hW0];clear hW0 hO;go_loopw [10,14] (fun _ iv wr=>∃ k:Nat,k<=3/\iv=.int .i64 (k:Int)/\Hid (ArrI wr O 3 3 (fll F (fun _=>0) k)/\Below W0.heap.size W0 wr)) (fun _ iv _=>3-(intOf iv).toNat)
 case atStart=>exact⟨0,by omega,rfl,by rw[jJ,HOE.out];exact World.rowIs_made _ _ _ _,(Below.refl _ _).alloc (Nat.le_refl _) _⟩
 case round =>
  obtain⟨k,hk,rfl,hI⟩:=hrel;by_cases hlt:k<3
  ·have hlt2:(k:Int)<3:=by omega
   have hks:IntKind.i64.wrap ((k:Int)+1)=(k:Int)+1:=by rw[IntKind.wrap_i64];omega
   have HWD0:Hid (Below W0.heap.size W0 wr.drew):=hI.out.2.drew;have HAD0:Hid (ArrI wr.drew O 3 3 (fll F (fun _=>0) k)):=hI.out.1.below ((Below.refl _ _).drew (w:=wr)) (by exact hI.out.1.lt)
   have HSB:Hid (∀ W,Below wr.drew.heap.size wr.drew W->W.cell? ⟨G,0,none⟩=some (.pointer (some ⟨b,0,none⟩))/\W.cell? ⟨G,1,none⟩=some (.slice ag ng cg)/\W.cell? ⟨G,2,none⟩=some (.int .i64 (n:Int))):=fun W hW=>by have h:=HC.out W (HWD0.out.trans (hW.mono HWD0.out.size));exact⟨h.1,h.2.1,h.2.2.1⟩
   have HS4:Hid (∀ W,Below wr.drew.heap.size wr.drew W->∀ u:Value,(W.setCell ⟨O,k,none⟩ u).cell? ⟨G,0,none⟩=some (.pointer (some ⟨b,0,none⟩))/\(W.setCell ⟨O,k,none⟩ u).cell? ⟨G,1,none⟩=some (.slice ag ng cg)/\(W.setCell ⟨O,k,none⟩ u).cell? ⟨G,2,none⟩=some (.int .i64 (n:Int))):=fun W hW u=>by have hw:=(HWD0.out.trans (hW.mono HWD0.out.size)).setCell (p:=⟨O,k,none⟩) (by show W0.heap.size<=O;have:=HOE.out;omega) u;have h:=HC.out _ hw;exact⟨h.1,h.2.1,h.2.2.1⟩
   have HAD:Hid (∀ W,Below wr.drew.heap.size wr.drew W->ArrI W O 3 3 (fll F (fun _=>0) k)):=fun W hW=>HAD0.out.below hW (by exact HAD0.out.lt);have HFIN:Hid (∀ W,Below wr.drew.heap.size wr.drew W->ArrI (W.setCell ⟨O,k,none⟩ (.int .i64 (F k))) O 3 3 (fll F (fun _=>0) (k+1))/\Below W0.heap.size W0 (W.setCell ⟨O,k,none⟩ (.int .i64 (F k)))):=fun W hW=>⟨(HAD.out W hW).next,(HWD0.out.trans (hW.mono HWD0.out.size)).setCell (p:=⟨O,k,none⟩) (by show W0.heap.size<=O;have:=HOE.out;omega) _⟩
   have HPT:Hid (∀ W a c (j:Nat),Below wr.drew.heap.size wr.drew W->Lst W.heap.size W a c ([xs,[(k:Int)]].flatten)->Calls Tryz.prog 108 #[.agg #[.pointer (some ⟨b,0,none⟩),.slice ag ng cg,.int .i64 (n:Int)],.slice ab nt cb,.slice az nz cz,.slice a ([xs,[(k:Int)]].flatten).length c] W fun e w'=>e=.returned (.int .i64 (F k))/\Below W.heap.size W w'):=fun W a c _ hW hl=>by rw[show [xs,[(k:Int)]].flatten=xs++[(k:Int)] from by simp] at hl ⊢;exact HPT0.out W a c k hlt (HWD0.out.trans (hW.mono HWD0.out.size)) hl
   have HLXD:=hid (HLX.out wr.drew HWD0.out);clear hI HAD0;go_wp2_with fail;refine wp_region_held_drew (S:=fun W=>(W.cell? ⟨G,0,none⟩=some (.pointer (some ⟨b,0,none⟩))/\W.cell? ⟨G,1,none⟩=some (.slice ag ng cg)/\W.cell? ⟨G,2,none⟩=some (.int .i64 (n:Int)))) (by kernel_rfl) (HSB.out _ (Below.refl _ _)) (fun hHeld=>?_);generalize wr.drew=WD at *;have HWA:Hid (Below WD.heap.size WD (WD.alloc (.cells #[.int .i64 (k:Int)] 3))/\Below WD.heap.size WD ((WD.alloc (.cells #[.int .i64 (k:Int)] 3)).alloc (.cells #[.slice ax nx cx,.slice (some ⟨WD.heap.size,0,none⟩) 1 1] 25))):=⟨(Below.refl _ _).alloc (Nat.le_refl _) _,((Below.refl _ _).alloc (Nat.le_refl _) _).alloc (by simp) _⟩
   have HCT:Hid (Calls Tryz.prog 68 #[.slice (some ⟨WD.heap.size+1,0,none⟩) 2 2] ((WD.alloc (.cells #[.int .i64 (k:Int)] 3)).alloc (.cells #[.slice ax nx cx,.slice (some ⟨WD.heap.size,0,none⟩) 1 1] 25)) fun e w'=>∃ v,e=.returned v/\w'.ownsRow ((WD.alloc (.cells #[.int .i64 (k:Int)] 3)).alloc (.cells #[.slice ax nx cx,.slice (some ⟨WD.heap.size,0,none⟩) 1 1] 25)).heap.size 3 1 v ([xs,[(k:Int)]].flatten).length (([xs,[(k:Int)]].flatten).map (Value.int .i64))/\Below ((WD.alloc (.cells #[.int .i64 (k:Int)] 3)).alloc (.cells #[.slice ax nx cx,.slice (some ⟨WD.heap.size,0,none⟩) 1 1] 25)).heap.size ((WD.alloc (.cells #[.int .i64 (k:Int)] 3)).alloc (.cells #[.slice ax nx cx,.slice (some ⟨WD.heap.size,0,none⟩) 1 1] 25)) w'):=by have h1:=Xb (n0:=(WD.alloc (.cells #[.int .i64 (k:Int)] 3)).heap.size) (w:=WD.alloc (.cells #[.int .i64 (k:Int)] 3)) (a:=ax) (ca:=cx) (x:=xs) (b:=some ⟨WD.heap.size,0,none⟩) (cb:=1) (y:=[(k:Int)]) ((HLXD.out.below HWA.out.1).mono HWA.out.1.size) (Jy WD (k:Int)) (Nat.le_refl _);rw[<- HNX.out.1] at h1;have h:=Ly 2 (some ⟨(WD.alloc (.cells #[.int .i64 (k:Int)] 3)).heap.size,0,none⟩) [xs,[(k:Int)]] _ (by simp) (by have:=HNX.out.2;simp;omega) (by simp) (h1.mono (by simp));rw[show (WD.alloc (.cells #[.int .i64 (k:Int)] 3)).heap.size=WD.heap.size+1 from by simp] at h;exact h
   obtain⟨fk,hfk⟩:∃ fk,fk=[xs,[(k:Int)]].flatten:=⟨_,rfl⟩
   rw[<- hfk] at HCT HPT;clear hfk;refine Aa 0 (.slice (some ⟨O,0,none⟩) 3 3) ?_;simp only[Ac];refine Aa 1 (.int .i64 (k:Int)) ?_;simp only[Ac];refine Aa 2 (.agg #[.pointer (some ⟨b,0,none⟩),.slice ag ng cg,.int .i64 (n:Int)]) ?_;simp only[Ac];refine Aa 3 (.slice ab nt cb) ?_;simp only[Ac];refine Aa 4 (.slice az nz cz) ?_;simp only[Ac];refine Aa 5 (.slice ax nx cx) ?_;simp only[Ac];refine Aa 6 (.int .i64 (k:Int)) ?_;simp only[Ac];refine Ab 7 fun K' hK'=>?_;go_simp;refine hK'.out _ _ (HSB.out _ HWA.out.1) (fun hHeld=>?_);clear hK' K';refine Ab 8 fun K' hK'=>?_;go_simp;refine hK'.out _ _ (HSB.out _ HWA.out.2) (fun hHeld=>?_);clear hK' K';refine Ab 9 fun K' hK'=>?_;go_simp;refine (HCT.out).mono ?_;rintro e w3 ⟨v3,rfl,ho3,hb3⟩;have HB3:Hid (Below WD.heap.size WD w3):=HWA.out.2.trans (hb3.mono HWA.out.2.size);obtain⟨a3,c3,rfl,hl3⟩:=kY ho3;have HPX:=hid (HPT.out w3 a3 c3 k HB3.out hl3);clear ho3 hb3 hl3;refine hK'.out _ _ (HSB.out _ HB3.out) (fun hHeld=>?_);clear hK' K';refine Ab 10 fun K' hK'=>?_;go_simp;refine (HPX.out).mono ?_;rintro e w4 ⟨rfl,hb4⟩;have HB4:Hid (Below WD.heap.size WD w4):=HB3.out.trans (hb4.mono HB3.out.size);have HAB:=hid (HAD.out w4 HB4.out);have c1:=HAB.out.cell hlt;have y1:=HAB.out.frozen k;generalize fll F (fun _=>0) k k=y0 at *;clear hb4;refine hK'.out _ _ (HSB.out _ HB4.out) (fun hHeld=>?_);clear hK' K';refine Aa 11 (.pointer (some ⟨O,k,none⟩)) ?_;simp only[Ac];refine Ab 12 fun K' hK'=>?_;go_simp;refine hK'.out _ _ (HS4.out _ HB4.out _) (fun hHeld=>?_);clear hK' K';refine wpAnyH_done (by kernel_rfl) ?_ _;have HE4:=hid (HFIN.out w4 HB4.out);clear HAB HAD HFIN c1 y1;go_wp2_with fail;go_roundw
   case rel=>exact⟨k+1,by omega,by go_num,HE4.out⟩
   case measure=>simp[intOf];omega
  ·obtain rfl:k=3:=by omega
   have hlt2:¬ (3:Int)<(3:Int):=by omega
   have HE:Hid (ArrI wr O 3 3 F/\Below w.heap.size w wr):=⟨hI.out.1.congr (fun j hj=>zV hj),HBW.out _ hI.out.2⟩
   clear hI;go_wp2_with fail;go_ret;exact⟨O,rfl,HOW.out,HE.out⟩
theorem aCM (kind x y0 y1 r:Int):jnx kind x (y0*(1-r)+y1*r)=jnx kind x y0*(1-r)+jnx kind x y1*r:=by
 unfold jnx;split <;> grind
theorem Kb (k:Nat):xpt n A B (xs++[r]) k=Sum.upz (xpt n A B xs) xs.length r k:=by
 unfold xpt Sum.upz;rw[List.length_append];simp only[List.length_singleton];by_cases h1:k=xs.length
 ·rw[if_pos (by omega),if_pos h1,h1];exact Bu xs r
 ·by_cases h2:k<xs.length
  ·rw[if_pos (by omega),if_neg h1,if_pos h2];exact Da h2
  ·rw[if_neg (by omega),if_neg h1,if_neg h2]
theorem aCN:Sum.prz (Cz n A B (xs++[r])) (xs++[r]).length=Sum.prz (Cz n A B xs) xs.length*((if abz n A B xs.length=0 then 1 else 0)*(1-r)+(if abz n A B xs.length=0 then 0 else 1)*r):=by
 rw[List.length_append,List.length_singleton,Sum.prz]
 congr 1
 ·exact Sum.prz_same (fun k hk=>by unfold Cz;rw[Da hk])
 ·unfold Cz;rw[Bu];split <;> simp
theorem aEt{gs:List GatZ} (ht:t.length=2 ^ n) (hl:xs.length+1<=2*n):∃ (c:Int) (a b:Nat->Int),∀ r:Int,(p:Int)∣ptt p gs t n z (xs++[r]) i-c*Sum.prz (fun k=>a k*(1-r)+b k*r) 2:=by
 obtain⟨A,hA⟩:=exE ((gat gs i).a.toNat);obtain⟨B,hB⟩:=exE ((gat gs i).b.toNat);obtain⟨base,hbase⟩:=exE (xpt n A B xs)
 have key:∃ J0 J1:Int,∀ r:Int,jnx (gat gs i).kind (Sum.ext (zat t) (xpt n A B (xs++[r])) n) (Sum.ext (zat t) (fun j=>xpt n A B (xs++[r]) (n+j)) n)=J0*(1-r)+J1*r:=by
  by_cases hL:xs.length<n
  ·refine⟨jnx (gat gs i).kind (Sum.ext (zat t) (Sum.upz base xs.length 0) n) (Sum.ext (zat t) (fun j=>base (n+j)) n),jnx (gat gs i).kind (Sum.ext (zat t) (Sum.upz base xs.length 1) n) (Sum.ext (zat t) (fun j=>base (n+j)) n),fun r=>?_⟩;rw[<- aEp]
   congr 1
   ·rw[Sum.ext_same (fun _ _=>rfl) (fun j _=>Kb j),<- hbase,Sum.ext_straight _ _ _ _ hL];generalize Sum.ext (zat t) (Sum.upz base xs.length 0) n=e0;generalize Sum.ext (zat t) (Sum.upz base xs.length 1) n=e1
    grind
   ·refine Sum.ext_same (fun _ _=>rfl) (fun j _=>?_);rw[Kb,<- hbase];unfold Sum.upz;rw[if_neg (by omega)]
  ·refine⟨jnx (gat gs i).kind (Sum.ext (zat t) base n) (Sum.ext (zat t) (Sum.upz (fun j=>base (n+j)) (xs.length-n) 0) n),jnx (gat gs i).kind (Sum.ext (zat t) base n) (Sum.ext (zat t) (Sum.upz (fun j=>base (n+j)) (xs.length-n) 1) n),fun r=>?_⟩;rw[<- aCM]
   congr 1
   ·refine Sum.ext_same (fun _ _=>rfl) (fun j hj=>?_);rw[Kb,<- hbase];unfold Sum.upz;rw[if_neg (by omega)]
   ·have e:∀ j,j<n->xpt n A B (xs++[r]) (n+j)=Sum.upz (fun j=>base (n+j)) (xs.length-n) r j:=fun j _=>by
     rw[Kb,<- hbase];unfold Sum.upz;by_cases h:j=xs.length-n
     ·rw[if_pos (by omega),if_pos h]
     ·rw[if_neg (by omega),if_neg h]
    rw[Sum.ext_same (fun _ _=>rfl) e,Sum.ext_straight _ _ _ _ (show xs.length-n<n by omega)];generalize Sum.ext (zat t) (Sum.upz (fun j=>base (n+j)) (xs.length-n) 0) n=e0;generalize Sum.ext (zat t) (Sum.upz (fun j=>base (n+j)) (xs.length-n) 1) n=e1
    grind
 obtain⟨J0,J1,hJ⟩:=key;refine⟨Sum.wgt (zat z) z.length i*Sum.prz (Cz n A B xs) xs.length,fun k=>if k=0 then (if abz n A B xs.length=0 then 1 else 0) else J0,fun k=>if k=0 then (if abz n A B xs.length=0 then 0 else 1) else J1,fun r=>?_⟩;rw[Lp ht (by rw[List.length_append];exact hl),<- hA,<- hB,aCN]
 have ep:Sum.prz (fun k=>(if k=0 then (if abz n A B xs.length=0 then (1:Int) else 0) else J0)*(1-r)+(if k=0 then (if abz n A B xs.length=0 then (0:Int) else 1) else J1)*r) 2=((if abz n A B xs.length=0 then 1 else 0)*(1-r)+(if abz n A B xs.length=0 then 0 else 1)*r)*(J0*(1-r)+J1*r):=by simp[Sum.prz]
 rw[ep,<- hJ r];have h1:=aEo p (gat gs i).kind (Sum.ext (zat t) (xpt n A B (xs++[r])) n) (Sum.ext (zat t) (fun j=>xpt n A B (xs++[r]) (n+j)) n);generalize jnz p (gat gs i).kind (Sum.ext (zat t) (xpt n A B (xs++[r])) n) (Sum.ext (zat t) (fun j=>xpt n A B (xs++[r]) (n+j)) n)=j1 at *;generalize jnx (gat gs i).kind (Sum.ext (zat t) (xpt n A B (xs++[r])) n) (Sum.ext (zat t) (fun j=>xpt n A B (xs++[r]) (n+j)) n)=j2 at *;generalize ((if abz n A B xs.length=0 then (1:Int) else 0)*(1-r)+(if abz n A B xs.length=0 then (0:Int) else 1)*r)=g;have e2:Sum.wgt (zat z) z.length i*(Sum.prz (Cz n A B xs) xs.length*g)*j1-Sum.wgt (zat z) z.length i*Sum.prz (Cz n A B xs) xs.length*(g*j2)=Sum.wgt (zat z) z.length i*Sum.prz (Cz n A B xs) xs.length*g*(j1-j2):=by grind
 rw[e2];exact Int.dvd_mul_of_dvd_right h1
theorem aEu{gs:List GatZ} (ht:t.length=2 ^ n) (hl:xs.length+1<=2*n):∃ f:Pol.S,∀ r:Int,(p:Int)∣ptz p gs t n z (xs++[r])-Pol.ps f r 3:=by
 have h:∀ i,∃ ab:Int × (Nat->Int) × (Nat->Int),∀ r:Int,(p:Int)∣ptt p gs t n z (xs++[r]) i-ab.1*Sum.prz (fun k=>ab.2.1 k*(1-r)+ab.2.2 k*r) 2:=fun i=>by obtain⟨c,a,b,h⟩:=aEt (p:=p) (i:=i) (gs:=gs) (z:=z) ht hl;exact⟨(c,a,b),h⟩
 obtain⟨F,hF⟩:=Classical.axiomOfChoice h;refine⟨Tg (fun i=>(F i).1) (fun k i=>(F i).2.1 k) (fun k i=>(F i).2.2 k) 2 gs.length,fun r=>?_⟩;rw[Lq];have h1:=Dom.sm_congr (p:=p) (n:=gs.length) (fun i _=>hF i r);have h2:=Int.dvd_add (Pol.emod_dvd p (Dom.sm (ptt p gs t n z (xs++[r])) gs.length)) h1;unfold ptz;generalize Dom.sm (ptt p gs t n z (xs++[r])) gs.length % (p:Int)=a at *;generalize Dom.sm (ptt p gs t n z (xs++[r])) gs.length=b at *
 rwa [show ∀ c:Int,a-b+(b-c)=a-c from fun c=>by omega] at h2
theorem Mg (h3:3<=p) (gs:List GatZ) (t z xs:List Int):0<=ptz p gs t n z xs/\ptz p gs t n z xs<p:=qQ _ p h3
theorem Cm{a b:Int} (ha:0<=a/\a<p) (hb:0<=b/\b<p) (h:(p:Int)∣a-b):a=b:=by
 obtain⟨c,hc⟩:=h
 have:c=0:=by
  rcases Int.lt_trichotomy c 0 with h | h | h
  ·have:(p:Int)*c<=(p:Int)*(-1):=Int.mul_le_mul_of_nonneg_left (by omega) (by omega);omega
  ·exact h
  ·have:(p:Int)*1<=(p:Int)*c:=Int.mul_le_mul_of_nonneg_left (by omega) (by omega);omega
 rw[this,Int.mul_zero] at hc;omega
theorem aF1{gs:List GatZ} (hp:Num.Prime p) (h3:3<=p) (ht:t.length=2 ^ n) (hl:xs.length+1<=2*n) (r:Int):atz p (tld p gs t n z xs) r=ptz p gs t n z (xs++[r]):=by
 obtain⟨f,hf⟩:=aEu (p:=p) (gs:=gs) (z:=z) ht hl;have hll:(tld p gs t n z xs).length=3:=kQ _ _
 have ha:=Sum.agree hp 3 (FS p (Bk 3) (tld p gs t n z xs) 3) f (fun i=>(i:Int)) (fun i j hij hj hd=>by
  have:=Int.le_of_dvd (by omega) hd
  omega) (fun i hi=>by
  have h1:=Zr hp h3 (l:=tld p gs t n z xs) (n:=3) (by omega) hi;have h2:=hf (i:Int);have e:zat (tld p gs t n z xs) i=ptz p gs t n z (xs++[(i:Int)]):=by unfold tld;rw[kZ _ _ _ hi]
  rw[e] at h1;have:=Int.dvd_add h1 h2
  rwa [show ∀ a b c:Int,a-b+(b-c)=a-c from fun a b c=>by omega] at this) r
 have h1:=aC8 h3 hll r;have h2:=hf r;refine Cm (Fe p _ r h3) (Mg h3 _ _ _ _) ?_;have:=Int.dvd_sub (Int.dvd_add h1 ha) h2
 rwa [show ∀ a b c d:Int,a-b+(b-c)-(d-c)=a-d from fun a b c d=>by omega] at this
theorem Ha (p:Nat) (t x y:List Int) (m:Nat):(lnz p t x y m).length=m+1:=kQ _ _
theorem Kc (t x y:List Int) (hx:x.length=m) (r:Int):Sum.ext (zat t) (zat (onl p x y r)) m % (p:Int)=Sum.ext (zat t) (fun k=>zat x k+r*(zat y k-zat x k)) m % (p:Int) :=
 jK (Sum.ext_congr (fun i _=>by rw[Int.sub_self];exact Int.dvd_zero _) (fun j hj=>by
  unfold onl;rw[kZ _ _ _ (by omega)]
  exact Pol.emod_dvd p _))
theorem Tu (t x y:List Int) (hx:x.length=m):zat (lnz p t x y m) 0=Sum.ext (zat t) (zat x) m % (p:Int):=by
 unfold lnz;rw[kZ _ _ _ (by omega),Kc t x y hx]
 congr 1
 exact Sum.ext_same (fun _ _=>rfl) (fun j _=>by simp)
theorem aEv (t x y:List Int) (hx:x.length=m):zat (lnz p t x y m) (min 1 m)=Sum.ext (zat t) (zat y) m % (p:Int):=by
 by_cases h:m=0
 ·subst h;show zat (lnz p t x y 0) 0=_;rw[Tu t x y hx,Sum.ext_zero,Sum.ext_zero]
 ·rw[show min 1 m=1 from by omega];unfold lnz;rw[kZ _ _ _ (by omega),Kc t x y hx]
  congr 1
  refine Sum.ext_same (fun _ _=>rfl) (fun j _=>?_);show zat x j+((1:Nat):Int)*(zat y j-zat x j)=zat y j;rw[show ((1:Nat):Int)=1 from rfl];omega
theorem aF2 (hp:Num.Prime p) (h3:3<=p) (hm:m+1<=p) (t x y:List Int) (hx:x.length=m) (r:Int):atz p (lnz p t x y m) r=Sum.ext (zat t) (zat (onl p x y r)) m % (p:Int):=by
 have hk:=Wy (p:=p) (v:=m) hp (zat t) (zat x) (zat y) (FS p (Bk (m+1)) (lnz p t x y m) (m+1)) (fun i=>(i:Int)) (fun i j hij hj hd=>by
  have:=Int.le_of_dvd (by omega) hd
  omega) (fun i hi=>by
  have h1:=Zr hp h3 (l:=lnz p t x y m) (n:=m+1) hm hi
  have e:zat (lnz p t x y m) i=Sum.ext (zat t) (fun k=>zat x k+(i:Int)*(zat y k-zat x k)) m % (p:Int):=by unfold lnz;rw[kZ _ _ _ hi,Kc t x y hx]
  rw[e] at h1;have h2:=Pol.emod_dvd p (Sum.ext (zat t) (fun k=>zat x k+(i:Int)*(zat y k-zat x k)) m);have:=Int.dvd_add h1 h2
  rwa [show ∀ a b c:Int,a-b+(b-c)=a-c from fun a b c=>by omega] at this) r
 have h1:=aC8 h3 (Ha p t x y m) r;rw[Kc t x y hx];refine Cm (Fe p _ r h3) (qQ _ p h3) ?_;have h2:=Pol.emod_dvd p (Sum.ext (zat t) (fun k=>zat x k+r*(zat y k-zat x k)) m);have:=Int.dvd_sub (Int.dvd_add h1 hk) h2
 rwa [show ∀ a b c d:Int,a-b+(b-c)-(d-c)=a-d from fun a b c d=>by omega] at this
theorem aEw{gs:List GatZ} (ht:t.length=2 ^ m) (hl:xs.length=2*m) (hk:∀ k,k<gs.length->(gat gs k).kind=0∨(gat gs k).kind=1):ptz q gs t m z xs=enz q gs z (xs.take m) (xs.drop m) (lnz q t (xs.take m) (xs.drop m) m) m:=by
 have htl:(xs.take m).length=m:=by rw[List.length_take];omega
 have hdl:(xs.drop m).length=m:=by rw[List.length_drop];omega
 unfold enz;rw[Tu t _ _ htl,aEv t _ _ htl];obtain⟨EX,hEX⟩:=exE (Sum.ext (zat t) (zat (xs.take m)) m);obtain⟨EY,hEY⟩:=exE (Sum.ext (zat t) (zat (xs.drop m)) m);rw[<- hEX,<- hEY];have hj:∀ kind:Int,jnz q kind (EX % (q:Int)) (EY % (q:Int))=jnz q kind EX EY:=fun kind=>Ih (Pol.emod_dvd q EX) (Pol.emod_dvd q EY);rw[hj,hj]
 have hterm:∀ i,i<gs.length->ptt q gs t m z xs i=wrt gs 0 z (xs.take m) (xs.drop m) i*jnz q 0 EX EY+wrt gs 1 z (xs.take m) (xs.drop m) i*jnz q 1 EX EY:=fun i hi=>by
  rw[Lp ht (by omega),Te (by omega),show min xs.length m=m from by omega,hl,show 2*m-m=m from by omega,Nat.sub_self,Nat.pow_zero,Nat.div_one,Nat.div_one]
  have e1:Sum.ext (zat t) (xpt m (gat gs i).a.toNat (gat gs i).b.toNat xs) m=EX:=by rw[hEX];refine Sum.ext_same (fun _ _=>rfl) (fun j hj=>?_);unfold xpt;rw[if_pos (by omega),Cq hj]
  have e2:Sum.ext (zat t) (fun j=>xpt m (gat gs i).a.toNat (gat gs i).b.toNat xs (m+j)) m=EY:=by rw[hEY];refine Sum.ext_same (fun _ _=>rfl) (fun j hj=>?_);unfold xpt;rw[if_pos (by omega),Cr]
  rw[e1,e2];have w1:Sum.wgt (zat xs) m (gat gs i).a.toNat=Sum.wgt (zat (xs.take m)) m (gat gs i).a.toNat:=Gt _ (fun j hj=>(Cq hj).symm);have w2:Sum.wgt (fun j=>zat xs (m+j)) m (gat gs i).b.toNat=Sum.wgt (zat (xs.drop m)) m (gat gs i).b.toNat:=Gt _ (fun j _=>(Cr _ _ _).symm);rw[w1,w2];unfold wrt;rw[htl,hdl];rcases hk i hi with h | h
  ·rw[h,if_pos rfl,if_neg (by decide),Int.zero_mul,Int.add_zero,Int.mul_assoc,Int.mul_assoc,Int.mul_assoc,Int.mul_assoc]
  ·rw[h,if_neg (by decide),if_pos rfl,Int.zero_mul,Int.zero_add,Int.mul_assoc,Int.mul_assoc,Int.mul_assoc,Int.mul_assoc]
 unfold ptz wrz;rw[Dom.sm_same hterm,Dom.sm_add];generalize jnz q 0 EX EY=J0;generalize jnz q 1 EX EY=J1
 have s0:Dom.sm (fun i=>wrt gs 0 z (xs.take m) (xs.drop m) i*J0) gs.length=Dom.sm (wrt gs 0 z (xs.take m) (xs.drop m)) gs.length*J0:=by rw[Int.mul_comm,<- Dom.sm_mul];exact Dom.sm_same (fun i _=>Int.mul_comm _ _)
 have s1:Dom.sm (fun i=>wrt gs 1 z (xs.take m) (xs.drop m) i*J1) gs.length=Dom.sm (wrt gs 1 z (xs.take m) (xs.drop m)) gs.length*J1:=by rw[Int.mul_comm,<- Dom.sm_mul];exact Dom.sm_same (fun i _=>Int.mul_comm _ _)
 rw[s0,s1];generalize Dom.sm (wrt gs 0 z (xs.take m) (xs.drop m)) gs.length=A;generalize Dom.sm (wrt gs 1 z (xs.take m) (xs.drop m)) gs.length=B;refine jK ?_
 have h0:(q:Int)∣A % (q:Int)*J0 % (q:Int)-A*J0:=by
  have a1:=Pol.emod_dvd q (A % (q:Int)*J0);have a2:(q:Int)∣(A % (q:Int)-A)*J0:=Int.dvd_mul_of_dvd_left (Pol.emod_dvd q A);rw[Int.sub_mul] at a2;have:=Int.dvd_add a1 a2
  rwa [show ∀ a b c:Int,a-b+(b-c)=a-c from fun a b c=>by omega] at this
 have h1:(q:Int)∣B % (q:Int)*J1 % (q:Int)-B*J1:=by
  have a1:=Pol.emod_dvd q (B % (q:Int)*J1);have a2:(q:Int)∣(B % (q:Int)-B)*J1:=Int.dvd_mul_of_dvd_left (Pol.emod_dvd q B);rw[Int.sub_mul] at a2;have:=Int.dvd_add a1 a2
  rwa [show ∀ a b c:Int,a-b+(b-c)=a-c from fun a b c=>by omega] at this
 have:=Int.dvd_neg.2 (Int.dvd_add h0 h1)
 rwa [show ∀ a b c d:Int,-(a-b+(c-d))=b+d-(a+c) from fun a b c d=>by omega] at this
def mks (q n:Nat) (gs:List GatZ) (t:List Int) (m:Nat) (z D:List Int):Nat->List Int × List Int
 | 0=>(D,[])
 | k+1=>(gan q n (mks q n gs t m z D k).1 (tld q gs t m z (mks q n gs t m z D k).2),(mks q n gs t m z D k).2++[zat (gan q n (mks q n gs t m z D k).1 (tld q gs t m z (mks q n gs t m z D k).2)) 0])
def mkr (q n:Nat) (gs:List GatZ) (t:List Int) (m:Nat) (z D:List Int) (k:Nat):List (List Int):=(List.range k).map (fun j=>tld q gs t m z (mks q n gs t m z D j).2)
theorem Qq (q n:Nat) (gs:List GatZ) (t:List Int) (m:Nat) (z D:List Int) (k:Nat):(mkr q n gs t m z D k).length=k:=by simp[mkr]
theorem Kd{gs:List GatZ}{j:Nat} (h:j<k):rat (mkr q n gs t m z D k) j=tld q gs t m z (mks q n gs t m z D j).2:=by
 unfold rat mkr;rw[List.getD_eq_getElem?_getD];simp[h]
theorem Ke {q n:Nat} {gs:List GatZ} {t:List Int} {m:Nat} {z D:List Int} {K:Nat}:∀ k,k<=K->gds q n (mkr q n gs t m z D K) D k=(mks q n gs t m z D k).1/\gxs q n (mkr q n gs t m z D K) D k=(mks q n gs t m z D k).2
 | 0,_=>⟨rfl,rfl⟩
 | k+1,h=>by
  obtain⟨h1,h2⟩:=Ke (q:=q) (n:=n) (gs:=gs) (t:=t) (m:=m) (z:=z) (D:=D) (K:=K) k (by omega)
  have e1:gds q n (mkr q n gs t m z D K) D (k+1)=(mks q n gs t m z D (k+1)).1:=by show gan q n (gds q n (mkr q n gs t m z D K) D k) (rat (mkr q n gs t m z D K) k)=_;rw[h1,Kd (by omega)];rfl
  refine⟨e1,?_⟩;rw[Rz,h2,e1];rfl
theorem Hb {q n:Nat} {gs:List GatZ} {t:List Int} {m:Nat} {z D:List Int}:∀ k,(mks q n gs t m z D k).2.length=k
 | 0=>rfl
 | k+1=>by show ((mks q n gs t m z D k).2++[_]).length=_;rw[List.length_append,Hb k];rfl
theorem Xh (hp:Num.Prime q) (h23:23<=q) (hm:m<=6) {gs:List GatZ} {t:List Int} {s:GSt} (ht:t.length=2 ^ m) (hk:∀ k,k<gs.length->(gat gs k).kind=0∨(gat gs k).kind=1) (hc:s.c=ptz q gs t m s.z []) :
  GlO q n m gs (mkr q n gs t m s.z s.D (2*m)) (lnz q t ((mks q n gs t m s.z s.D (2*m)).2.take m) ((mks q n gs t m s.z s.D (2*m)).2.drop m) m) s /\
   (gnx q n m (mkr q n gs t m s.z s.D (2*m)) (lnz q t ((mks q n gs t m s.z s.D (2*m)).2.take m) ((mks q n gs t m s.z s.D (2*m)).2.drop m) m) s).c=Sum.ext (zat t) (zat (gnx q n m (mkr q n gs t m s.z s.D (2*m)) (lnz q t ((mks q n gs t m s.z s.D (2*m)).2.take m) ((mks q n gs t m s.z s.D (2*m)).2.drop m) m) s).z) m % (q:Int):=by
 have h3:3<=q:=by omega
 have hcs:∀ k,k<=2*m->gcs q n (mkr q n gs t m s.z s.D (2*m)) s.D s.c k=ptz q gs t m s.z (mks q n gs t m s.z s.D k).2:=by
  intro k hk';rcases k with _ | k
  ·exact hc
  ·show atz q (rat (mkr q n gs t m s.z s.D (2*m)) k) (zat (gds q n (mkr q n gs t m s.z s.D (2*m)) s.D (k+1)) 0)=_;rw[Kd (by omega),(Ke (k+1) hk').1,aF1 hp h3 ht (by rw[Hb];omega)];rfl
 have hX:gxs q n (mkr q n gs t m s.z s.D (2*m)) s.D (2*m)=(mks q n gs t m s.z s.D (2*m)).2:=(Ke (2*m) (Nat.le_refl _)).2;have hXl:(mks q n gs t m s.z s.D (2*m)).2.length=2*m:=Hb _;refine⟨⟨⟨Qq _ _ _ _ _ _ _ _,Ha _ _ _ _ _⟩,fun k hk'=>?_,?_⟩,?_⟩
 ·unfold GrO;rw[hcs k (by omega),Kd hk'];refine⟨kQ _ _,?_⟩;unfold tld;rw[kZ _ _ _ (by omega),kZ _ _ _ (by omega)];rw[aEm (xs:=(mks q n gs t m s.z s.D k).2) ht (by rw[Hb];omega)];rfl
 ·rw[hX,hcs (2*m) (Nat.le_refl _),aEw ht hXl hk]
 ·show atz q _ _=Sum.ext (zat t) (zat (onl q _ _ _)) m % _;rw[hX];exact aF2 hp h3 (by omega) t _ _ (by rw[List.length_take];omega) _
def mrs (q n:Nat) (wide:Int) (lys:List (List GatZ)) (inputs:List Int) (ly:Nat) (s:GSt):List (List Int):=mkr q n (lyt lys ly) (gvs q lys inputs ly) (bnn wide lys ly) s.z s.D (2*bnn wide lys ly)
def mln (q n:Nat) (wide:Int) (lys:List (List GatZ)) (inputs:List Int) (ly:Nat) (s:GSt):List Int:=lnz q (gvs q lys inputs ly) ((mks q n (lyt lys ly) (gvs q lys inputs ly) (bnn wide lys ly) s.z s.D (2*bnn wide lys ly)).2.take (bnn wide lys ly)) ((mks q n (lyt lys ly) (gvs q lys inputs ly) (bnn wide lys ly) s.z s.D (2*bnn wide lys ly)).2.drop (bnn wide lys ly)) (bnn wide lys ly)
def mst (q n:Nat) (wide:Int) (lys:List (List GatZ)) (inputs:List Int):Nat->GSt
 | 0=>gs0 q n wide lys (gvs q lys inputs lys.length)
 | i+1=>gnx q n (bnn wide lys (lys.length-1-i)) (mrs q n wide lys inputs (lys.length-1-i) (mst q n wide lys inputs i)) (mln q n wide lys inputs (lys.length-1-i) (mst q n wide lys inputs i)) (mst q n wide lys inputs i)
def mRs (q n:Nat) (wide:Int) (lys:List (List GatZ)) (inputs:List Int) (k:Nat):List (List (List Int)):=(List.range k).map (fun i=>mrs q n wide lys inputs (lys.length-1-i) (mst q n wide lys inputs i))
def mLs (q n:Nat) (wide:Int) (lys:List (List GatZ)) (inputs:List Int) (k:Nat):List (List Int):=(List.range k).map (fun i=>mln q n wide lys inputs (lys.length-1-i) (mst q n wide lys inputs i))
theorem Ao (q n:Nat) (wide:Int) (lys:List (List GatZ)) (inputs:List Int) (k:Nat):(mRs q n wide lys inputs k).length=k:=by simp[mRs]
theorem Bd (q n:Nat) (wide:Int) (lys:List (List GatZ)) (inputs:List Int) (k:Nat):(mLs q n wide lys inputs k).length=k:=by simp[mLs]
theorem Qr{lys:List (List GatZ)} (h:i<k):rrt (mRs q n wide lys inputs k) i=mrs q n wide lys inputs (lys.length-1-i) (mst q n wide lys inputs i):=by
 unfold rrt mRs;rw[List.getD_eq_getElem?_getD];simp[h]
theorem Xi{lys:List (List GatZ)} (h:i<k):rat (mLs q n wide lys inputs k) i=mln q n wide lys inputs (lys.length-1-i) (mst q n wide lys inputs i):=by
 unfold rat mLs;rw[List.getD_eq_getElem?_getD];simp[h]
theorem Kf {q n:Nat} {wide:Int} {lys:List (List GatZ)} {inputs:List Int}:∀ i,i<=lys.length->gst q n wide lys (mRs q n wide lys inputs lys.length) (mLs q n wide lys inputs lys.length) (gs0 q n wide lys (gvs q lys inputs lys.length)) i=mst q n wide lys inputs i
 | 0,_=>rfl
 | i+1,h=>by show gnx _ _ _ _ _ _=gnx _ _ _ _ _ _;rw[Kf i (by omega),Qr (by omega),Xi (by omega)]
theorem Mh (hp:Num.Prime q) (h23:23<=q) {wide:Int} {lys:List (List GatZ)} {inputs:List Int} (hF:flt wide lys=0) (hin:inputs.length=2 ^ wide.toNat) :
  GcO q n wide lys (gvs q lys inputs lys.length) (mRs q n wide lys inputs lys.length) (mLs q n wide lys inputs lys.length)/\(mst q n wide lys inputs lys.length).c=Sum.ext (zat inputs) (zat (mst q n wide lys inputs lys.length).z) wide.toNat % (q:Int):=by
 obtain⟨hS,hG⟩:=Br hF;have h1:=hS.2.1;have hlen:∀ i,i<=lys.length->(gvs q lys inputs i).length=2 ^ bnn wide lys i:=fun i hi=>Pp hS hin hi
 have hz:∀ i,i<=lys.length->(mst q n wide lys inputs i).z.length=bnn wide lys (lys.length-i):=by
  intro i hi;rcases i with _ | i
  ·exact Ts _ _ _ _
  ·show (onl _ _ _ _).length=_;rw[Jz,List.length_take,Gy,show lys.length-(i+1)=lys.length-1-i from by omega];omega
 have key:∀ i,i<=lys.length->(mst q n wide lys inputs i).c=Sum.ext (zat (gvs q lys inputs (lys.length-i))) (zat (mst q n wide lys inputs i).z) (bnn wide lys (lys.length-i)) % (q:Int)/\∀ j,j<i->GlO q n (bnn wide lys (lys.length-1-j)) (lyt lys (lys.length-1-j)) (mrs q n wide lys inputs (lys.length-1-j) (mst q n wide lys inputs j)) (mln q n wide lys inputs (lys.length-1-j) (mst q n wide lys inputs j)) (mst q n wide lys inputs j):=by
  intro i
  induction i with
  | zero=>exact fun _=>⟨rfl,fun j hj=>absurd hj (Nat.not_lt_zero _)⟩
  | succ i ih =>
   intro hi;obtain⟨hc,ha⟩:=ih (by omega);have hly:lys.length-1-i<lys.length:=by omega
   have hb:=hS.bn (show lys.length-1-i<=lys.length by omega);have e1:lys.length-i=lys.length-1-i+1:=by omega
   have hgl:(lyt lys (lys.length-1-i)).length=2 ^ (mst q n wide lys inputs i).z.length:=by rw[hz i (by omega),e1];exact (hS.own hly).1
   have hc':(mst q n wide lys inputs i).c=ptz q (lyt lys (lys.length-1-i)) (gvs q lys inputs (lys.length-1-i)) (bnn wide lys (lys.length-1-i)) (mst q n wide lys inputs i).z []:=by
    rw[aEn hgl (fun k hk=>?_),hc,e1,hz i (by omega),e1]
    ·rfl
    ·have hg:=hG _ hly k hk;unfold GtO at hg;have e3:(2:Nat) ^ (bnz wide lys (lys.length-1-i)).toNat=2 ^ bnn wide lys (lys.length-1-i):=rfl;rw[e3] at hg;exact⟨by omega,by omega⟩
   have hL:=Xh (n:=n) (m:=bnn wide lys (lys.length-1-i)) (gs:=lyt lys (lys.length-1-i)) (t:=gvs q lys inputs (lys.length-1-i)) (s:=mst q n wide lys inputs i) hp h23 hb.2 (hlen _ (by omega)) (fun k hk=>by
    have hg:=(hG _ hly k hk).1
    omega) hc'
   refine⟨?_,fun j hj=>?_⟩
   ·rw[show lys.length-(i+1)=lys.length-1-i from by omega];exact hL.2
   ·by_cases e:j=i
    ·rw[e];exact hL.1
    ·exact ha j (by omega)
 refine⟨⟨⟨hF,?_,Ao _ _ _ _ _ _,Bd _ _ _ _ _ _⟩,fun i hi=>?_⟩,?_⟩
 ·rw[hlen _ (Nat.le_refl _),(hS.own (show lys.length-1<lys.length by omega)).1,show lys.length-1+1=lys.length from by omega]
 ·rw[Kf i (by omega),Qr hi,Xi hi];exact (key lys.length (Nat.le_refl _)).2 i hi
 ·have hk:=(key lys.length (Nat.le_refl _)).1;rw[Nat.sub_self] at hk;have e0:bnn wide lys 0=wide.toNat:=rfl;rw[hk,e0];refine jK (Sum.ext_congr (fun i hi=>?_) (fun j _=>by rw[Int.sub_self];exact Int.dvd_zero _));show (q:Int)∣zat (ls (fun i=>zat inputs i % (q:Int)) inputs.length) i-zat inputs i;rw[kZ _ _ _ (by omega)];exact Pol.emod_dvd q _
end Go.Proofs.YtkdndfbfmchcpaaGreatDoor
