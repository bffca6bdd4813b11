
import Derived.Test.YtkdndfbfmchcpaaGreatDoorTgAQ
import Derived.Test.YtkdndfbfmchcpaaGreatDoorGuG
set_option maxRecDepth 1000000
set_option maxHeartbeats 8000000
namespace Go.Proofs.YtkdndfbfmchcpaaGreatDoor
variable {k m:Nat}{rows:List (List Int)}
open Go.RowKit
theorem Mj (q:Nat) (w:World) (h3:3<=q) (h4:q<=2147483647) (hpr:Num.Prime q) :
  Calls Tryz.prog 16 #[.int .i64 q] w fun e w'=>e=.returned (.pointer (some ⟨w.heap.size,0,none⟩))/\w'.cell? ⟨w.heap.size,0,none⟩=some (.int .i64 q)/\Below w.heap.size w w':=by
 have HF:=hid (aDE q w h3 h4 hpr);clear hpr;go_enter Tryz.func16,Tryz.ntmps16;go_wp2_with fail;refine HF.out.mono ?_;rintro e w1 ⟨rfl,hc1,hb1,hlt1⟩;have HE:=hid (And.intro hc1 hb1);clear hc1 hb1;go_wp2_with fail;go_ret;exact⟨rfl,HE.out.1,HE.out.2⟩
theorem aAS (p:Int) (w:World) (hno:¬ Jq p) (hp1:-9223372036854775808<=p) (hp2:p<=9223372036854775807) :
  Calls Tryz.prog 16 #[.int .i64 p] w fun e w'=>e=.returned (.pointer none)/\w'=w:=by
 have HF:=hid (aEZ p w hno hp1 hp2);clear hno;go_enter Tryz.func16,Tryz.ntmps16;go_wp2_with fail;refine HF.out.mono ?_;rintro e w1 ⟨rfl,rfl⟩;go_wp2_with fail;go_ret;exact⟨rfl,rfl⟩
theorem Ce (q:Nat) (w:World) (h23:23<=q) (h4:q<=2147483647) (hpr:Num.Prime q) :
  Calls Tryz.prog 5 #[.int .i64 q] w fun e w'=>∃ s b n d,e=.returned (.pointer (some ⟨s,0,none⟩))/\SpgOk q n d/\SpgAt w' s b q n d/\Below w.heap.size w w':=by
 have HF:=hid (Mj q w (by omega) h4 hpr);have HP:=hid hpr;clear hpr;go_enter Tryz.func5,Tryz.ntmps5;go_wp2_with fail;refine HF.out.mono ?_;rintro e w1 ⟨rfl,hc1,hb1⟩;have HC1:=hid hc1;have HB1:=hid hb1;clear hc1 hb1;go_wp2_with fail;refine (aBR q w.heap.size w1 HP.out h23 h4 HC1.out).mono ?_;rintro e w2 ⟨s,n,d,rfl,hls,hok,hat,hb2⟩;have HE:=hid (And.intro hok (And.intro hat (HB1.out.trans (hb2.mono HB1.out.size))));clear hok hat hb2;go_wp2_with fail;go_ret;exact⟨s,_,n,d,rfl,HE.out.1,HE.out.2.1,HE.out.2.2⟩
theorem Xl (p:Int) (w:World) (hno:¬ aCs p) (hp1:-9223372036854775808<=p) (hp2:p<=9223372036854775807) :
  Calls Tryz.prog 5 #[.int .i64 p] w fun e w'=>e=.returned (.pointer none)/\Below w.heap.size w w':=by
 by_cases hok:Jq p
 ·obtain⟨q,rfl⟩:=Int.eq_ofNat_of_zero_le (show 0<=p by have:=hok.1;omega)
  have hlt:q<23:=by
   rcases Nat.lt_or_ge q 23 with g | g
   ·exact g
   ·exact absurd ⟨hok,by omega⟩ hno
  obtain⟨hq3,hq4,hqp⟩:=hok;rw[Int.toNat_natCast] at hqp;have HF:=hid (Mj q w (by omega) (by omega) hqp);clear hno hqp hp1 hp2;go_enter Tryz.func5,Tryz.ntmps5;go_wp2_with fail;refine HF.out.mono ?_;rintro e w1 ⟨rfl,hc1,hb1⟩;have HC1:=hid hc1;have HB1:=hid hb1;clear hc1 hb1;go_wp2_with fail;refine (aDW q w.heap.size w1 (by omega) hlt HC1.out).mono ?_;rintro e w2 ⟨rfl,rfl⟩;go_wp2_with fail;go_ret;exact⟨rfl,HB1.out⟩
 ·have HF:=hid (aAS p w hok hp1 hp2);clear hno hok hp1 hp2;go_enter Tryz.func5,Tryz.ntmps5;go_wp2_with fail;refine HF.out.mono ?_;rintro e w1 ⟨rfl,rfl⟩;go_wp2_with fail;go_ret;exact⟨rfl,Below.refl _ _⟩
theorem Iy (q n d sp b cL co cR cS:Nat) (wide:Int) (aL ao aR aS:Option Addr) (lys:List (List GatZ)) (inputs:List Int) (W:World) (ok:SpgOk q n d) (hsp:SpgAt W sp b q n d) (h23:23<=q) (hIT:InT q b W) (hpr:Num.Prime q) (hB:CirB lys) (hl:LstGG W.heap.size W aL cL lys) (hV:vle wide lys inputs.length=0)
  (hRR:LstRR W.heap.size W aR cR (mRs q n wide lys inputs lys.length)) (hLS:LstR W.heap.size W aS cS (mLs q n wide lys inputs lys.length)) (hla:Lst W.heap.size W ao co (gvs q lys inputs lys.length)) :
  Calls Tryz.prog 10 #[.pointer (some ⟨sp,0,none⟩),.agg #[.int .i64 wide,.slice aL lys.length cL],.slice ao (gvs q lys inputs lys.length).length co,.agg #[.slice aR lys.length cR,.slice aS lys.length cS]] W fun e w'=>∃ a' c',e=.returned (.tuple #[.slice a' wide.toNat c',.int .i64 (mst q n wide lys inputs lys.length).c,.bool true])/\InL w' a' c' (mst q n wide lys inputs lys.length).z/\Below W.heap.size W w':=by
 have h3:3<=q:=hIT.h3;have h4:q<=2147483647:=hIT.hm;obtain⟨hS,hGC,hin⟩:=Gu hV
 have hF:flt wide lys=0:=by
  by_cases h:flt wide lys=0
  ·exact h
  ·have:=hV;unfold vle at this;rw[if_neg h] at this;exact absurd this h
 have hTP:=Mh (n:=n) hpr h23 hF hin;have h:=Vt q n d sp b cL co cR cS wide aL ao aR aS lys (gvs q lys inputs lys.length) (mRs q n wide lys inputs lys.length) (mLs q n wide lys inputs lys.length) W ok hsp h23 hIT hB hl hla (Kq h3 h4 lys inputs _) hRR hLS (aAR h3 h4 hS) hTP.1.1;rw[Ao,Bd] at h;refine h.mono ?_;rintro e w' ⟨h1,_,h2⟩;obtain⟨a',c',rfl,hn⟩:=h1 hTP.1;have eg:gst q n wide lys (mRs q n wide lys inputs lys.length) (mLs q n wide lys inputs lys.length) (gs0 q n wide lys (gvs q lys inputs lys.length)) lys.length=mst q n wide lys inputs lys.length:=Kf _ (Nat.le_refl _);rw[eg] at hn ⊢;have hok:=Xk h3 h4 n wide lys inputs lys.length (Nat.le_refl _);have hzl:(mst q n wide lys inputs lys.length).z.length=wide.toNat:=by rw[hok.len,Nat.sub_self];rfl
 rw[hzl];exact⟨a',c',rfl,⟨by rw[hok.len];have:=(hS.bn (show lys.length-lys.length<=lys.length by omega)).2;omega,hok.fit,hn.1⟩,h2⟩
theorem Xm{q n:Nat}{wide:Int}{lys:List (List GatZ)}{inputs:List Int} (h23:23<=q) (h4:q<=2147483647) (hpr:Num.Prime q) (hV:vle wide lys inputs.length=0) :
  (0<=wide/\wide<=6)/\inputs.length=2 ^ wide.toNat/\(mst q n wide lys inputs lys.length).z.length=wide.toNat/\Fits (mst q n wide lys inputs lys.length).z/\(mst q n wide lys inputs lys.length).c=Sum.ext (zat inputs) (zat (mst q n wide lys inputs lys.length).z) (mst q n wide lys inputs lys.length).z.length % (q:Int)/\1<=lys.length/\lys.length<=8:=by
 obtain⟨hS,hGC,hin⟩:=Gu hV
 have hF:flt wide lys=0:=by
  by_cases h:flt wide lys=0
  ·exact h
  ·have:=hV;unfold vle at this;rw[if_neg h] at this;exact absurd this h
 have hTP:=Mh (n:=n) hpr h23 hF hin;have hok:=Xk (show 3<=q by omega) h4 n wide lys inputs lys.length (Nat.le_refl _);have hzl:(mst q n wide lys inputs lys.length).z.length=wide.toNat:=by rw[hok.len,Nat.sub_self];rfl
 exact⟨hS.1,hin,hzl,hok.fit,by rw[hTP.2,hzl],hS.2.1.1,hS.2.1.2⟩
def tnL:List (List GatZ):=[[⟨1,0,1⟩]]
theorem aF3:vle 1 tnL 2=0:=by
 have hS:SzC 1 tnL:=⟨⟨by decide,by decide⟩,⟨by decide,by decide⟩,fun k hk=>by
  obtain rfl:k=0:=by simp[tnL] at hk;exact hk
  decide⟩
 have hG:GtC 1 tnL:=fun i hi k hk=>by
  obtain rfl:i=0:=by simp[tnL] at hi;exact hi
  obtain rfl:k=0:=by simp[tnL,lyt] at hk;exact hk
  decide
 have hf:flt 1 tnL=0:=by unfold flt;rw[if_pos hS,if_pos hG]
 unfold vle;rw[if_pos hf];rfl
theorem aF4:gvs 97 tnL [3,5] 1=[15]:=by decide
theorem aF5:CirB tnL:=by
 refine⟨by simp[tnL],fun k hk=>?_,fun k hk=>?_⟩
 ·obtain rfl:k=0:=by simp[tnL] at hk;exact hk
  simp[tnL,lyt]
 ·obtain rfl:k=0:=by simp[tnL] at hk;exact hk
  intro j hj;obtain rfl:j=0:=by simp[tnL,lyt] at hj;exact hj
  simp[tnL,lyt,gat,Bz]
theorem aF6 (G0:Nat) (W:World) (h0:W.heap[G0]?=some (.cells #[.int .i64 1,.int .i64 0,.int .i64 1] 61 (0,0))) (h1:W.heap[G0+1]?=some (.cells #[.slice (some ⟨G0,0,none⟩) 1 1] 62 (0,0))):LstGG W.heap.size W (some ⟨G0+1,0,none⟩) 1 tnL:=by
 have l0:=(Array.getElem?_eq_some_iff.1 h0).1;have l1:=(Array.getElem?_eq_some_iff.1 h1).1;refine⟨fun k hk=>?_,by simp[tnL],fun h=>by cases h⟩;obtain rfl:k=0:=by simp[tnL] at hk;exact hk
 refine⟨G0+1,0,some ⟨G0,0,none⟩,1,rfl,l1,by simp[World.cell?,h1,tnL,lyt],fun j hj=>?_,by simp[tnL,lyt],fun h=>by cases h⟩;obtain rfl:j=0:=by simp[tnL,lyt] at hj;exact hj
 exact⟨G0,0,rfl,l0,by simp[World.cell?,h0,tnL,lyt,gat],by simp[World.cell?,h0,tnL,lyt,gat],by simp[World.cell?,h0,tnL,lyt,gat]⟩
theorem En (w:World) (hT:TabAt 1 Lib.deBruijn64tab w) :
  Calls Tryz.prog 4 #[] w fun e w'=>e=.returned (.bool true)/\Below w.heap.size w w':=by
 have HSP:Hid (Calls Tryz.prog 5 #[.int .i64 97] w fun e w'=>∃ s b n d,e=.returned (.pointer (some ⟨s,0,none⟩))/\SpgOk 97 n d/\SpgAt w' s b 97 n d/\Below w.heap.size w w'):=Ce 97 w (by decide) (by decide) Qe;have HIT:Hid (∀ (W:World) (sp b n d:Nat),SpgAt W sp b 97 n d->Below w.heap.size w W->InT 97 b W):=fun W sp b n d hs hW=>⟨⟨Qe,by decide,by decide,hs.p⟩,xU hT hW⟩
 obtain⟨L,hL⟩:=exE (tnL);obtain⟨In,hIn⟩:∃ In:List Int,In=[3,5]:=⟨_,rfl⟩
 have hLl:L.length=1:=by rw[hL];rfl
 have hIl:In.length=2:=by rw[hIn];rfl
 have HLV:Hid (vle 1 L In.length=0):=by unfold Hid;rw[hIl,hL];exact aF3
 have HLG:Hid (gvs 97 L In 1=[15]):=by unfold Hid;rw[hL,hIn];exact aF4
 have HLC:Hid (CirB L):=by unfold Hid;rw[hL];exact aF5
 have HLT:Hid (∀ (G0:Nat) (W:World),W.heap[G0]?=some (.cells #[.int .i64 1,.int .i64 0,.int .i64 1] 61 (0,0))->W.heap[G0+1]?=some (.cells #[.slice (some ⟨G0,0,none⟩) 1 1] 62 (0,0))->LstGG W.heap.size W (some ⟨G0+1,0,none⟩) 1 L):=by unfold Hid;rw[hL];exact aF6
 have HIL:Hid (∀ (G:Nat) (W:World),W.heap[G]?=some (.cells #[.int .i64 3,.int .i64 5] 3 (0,0))->Lst W.heap.size W (some ⟨G,0,none⟩) 2 In):=fun G W h=>by
  rw[hIn];have hl:=(Array.getElem?_eq_some_iff.1 h).1;refine⟨fun k hk=>?_,by simp,fun h=>by cases h⟩;have hk2:k=0∨k=1:=by simp at hk;omega
  refine⟨G,0,rfl,hl,?_⟩;rcases hk2 with rfl | rfl <;> simp[World.cell?,h,zat]
 have HIF:Hid (Fits In):=by
  unfold Hid;rw[hIn];intro j hj;have hj2:j=0∨j=1:=by simp at hj;omega
  rcases hj2 with rfl | rfl <;> simp[zat]
 have HLL:Hid (L.length=1/\In.length=2):=⟨hLl,hIl⟩
 clear hT hL hIn hLl hIl;go_enter Tryz.func4,Tryz.ntmps4;go_wp2_with fail;refine HSP.out.mono ?_;rintro e w1 ⟨sp,b,n,d,rfl,hok,hat,hb1⟩;have HOK:=hid hok;have HAT:=hid hat;have HB1:=hid hb1;obtain⟨G0,hG0⟩:=exE (w1.heap.size);obtain⟨W2,hW2⟩:=exE (w1.alloc (.cells #[.int .i64 1,.int .i64 0,.int .i64 1] 61));obtain⟨W3,hW3⟩:=exE (W2.alloc (.cells #[.slice (some ⟨G0,0,none⟩) 1 1] 62));obtain⟨W4,hW4⟩:=exE (W3.alloc (.cells #[.int .i64 1,.slice (some ⟨G0+1,0,none⟩) 1 1] 24));obtain⟨W5,hW5⟩:=exE (W4.alloc (.cells #[.int .i64 3,.int .i64 5] 3));obtain⟨b2,s2,z2⟩:=qV hW2;obtain⟨b3,s3,z3⟩:=qV hW3;obtain⟨b4,s4,z4⟩:=qV hW4;obtain⟨b5,s5,z5⟩:=qV hW5;rw[<- hG0] at s2;rw[show W2.heap.size=G0+1 from by omega] at s3;rw[show W3.heap.size=G0+2 from by omega] at s4;rw[show W4.heap.size=G0+3 from by omega] at s5;have b25:Below W2.heap.size W2 W5:=(b3.trans (b4.mono b3.size)).trans (b5.mono (by omega));have t2:W5.heap[G0]?=some (.cells #[.int .i64 1,.int .i64 0,.int .i64 1] 61 (0,0)):=(b25.block G0 (by omega)).trans s2;have t3:W5.heap[G0+1]?=some (.cells #[.slice (some ⟨G0,0,none⟩) 1 1] 62 (0,0)):=((b5.block (G0+1) (by omega)).trans (b4.block (G0+1) (by omega))).trans s3;have t4:W5.heap[G0+2]?=some (.cells #[.int .i64 1,.slice (some ⟨G0+1,0,none⟩) 1 1] 24 (0,0)):=(b5.block (G0+2) (by omega)).trans s4;have hB15:Below w1.heap.size w1 W5:=b2.trans (b25.mono b2.size);have HB15:=hid hB15;have HS5:Hid (W5.heap[G0]?=some (.cells #[.int .i64 1,.int .i64 0,.int .i64 1] 61 (0,0))/\W5.heap[G0+1]?=some (.cells #[.slice (some ⟨G0,0,none⟩) 1 1] 62 (0,0))/\W5.heap[G0+2]?=some (.cells #[.int .i64 1,.slice (some ⟨G0+1,0,none⟩) 1 1] 24 (0,0))/\W5.heap[G0+3]?=some (.cells #[.int .i64 3,.int .i64 5] 3 (0,0))):=⟨t2,t3,t4,s5⟩
 have HGZ:Hid (W5.heap.size=G0+4):=by unfold Hid;omega
 have hs5:=HAT.out.keep hB15
 have HMK:Hid (Calls Tryz.prog 9 #[.pointer (some ⟨sp,0,none⟩),.agg #[.int .i64 1,.slice (some ⟨G0+1,0,none⟩) 1 1],.slice (some ⟨G0+3,0,none⟩) 2 2] W5 fun e w'=>∃ aR cR aS cS,e=.returned (.tuple #[.agg #[.slice aR 1 cR,.slice aS 1 cS],.nilIface])/\MkG W5.heap.size w' (.slice aR 1 cR) (.slice aS 1 cS) (mRs 97 n 1 L In L.length) (mLs 97 n 1 L In L.length)/\Below W5.heap.size W5 w'):=by have h:=Oo 97 n d sp b 1 2 1 (some ⟨G0+1,0,none⟩) (some ⟨G0+3,0,none⟩) L In W5 HOK.out hs5 (by decide) (HIT.out W5 sp b n d hs5 (HB1.out.trans (hB15.mono HB1.out.size))) HLC.out (HLT.out G0 W5 t2 t3) (HIL.out (G0+3) W5 s5) HIF.out HLV.out;rw[HLL.out.1,HLL.out.2] at h;exact h.mono fun e w' ⟨aR,cR,aS,cS,e1,e2,e3⟩=>⟨aR,cR,aS,cS,e1,by rw[HLL.out.1];exact e2,e3⟩
 have HX5:Hid (W5=(((w1.alloc (.cells #[.int .i64 1,.int .i64 0,.int .i64 1] 61)).alloc (.cells #[.slice (some ⟨w1.heap.size,0,none⟩) 1 1] 62)).alloc (.cells #[.int .i64 1,.slice (some ⟨w1.heap.size+1,0,none⟩) 1 1] 24)).alloc (.cells #[.int .i64 3,.int .i64 5] 3)):=by unfold Hid;rw[hW5,hW4,hW3,hW2,hG0]
 have HG0:=hid hG0;clear hok hat hb1 HSP hG0 hW2 hW3 hW4 hW5 b2 s2 z2 b3 s3 z3 b4 s4 z4 b5 s5 z5 b25 t2 t3 t4 hB15 hs5;go_wp2_with fail;rw[<- HX5.out,<- HG0.out];refine HMK.out.mono ?_;rintro e w6 ⟨aR,cR,aS,cS,rfl,hM,hb6⟩;obtain⟨W7,hW7⟩:=exE (w6.alloc (.cells #[.slice aR 1 cR,.slice aS 1 cS] 41));obtain⟨W8,hW8⟩:=exE (W7.alloc (.cells #[.int .i64 15] 3));obtain⟨b7,s7,z7⟩:=qV hW7;obtain⟨b8,s8,z8⟩:=qV hW8;have z7':W7.heap.size=w6.heap.size+1:=by omega
 rw[z7'] at s8;have hG2:W7.heap[G0+2]?=some (.cells #[.int .i64 1,.slice (some ⟨G0+1,0,none⟩) 1 1] 24 (0,0)):=((b7.block (G0+2) (by have:=HGZ.out;have:=hb6.size;omega)).trans (hb6.block (G0+2) (by have:=HGZ.out;omega))).trans HS5.out.2.2.1;have c0:=clA 0 hG2 rfl;have c1:=clA 1 hG2 rfl;have hO8:W8.heap[w6.heap.size]?=some (.cells #[.slice aR 1 cR,.slice aS 1 cS] 41 (0,0)):=(b8.block _ (by omega)).trans s7;have o0:=clA 0 hO8 rfl;have o1:=clA 1 hO8 rfl;have hb68:Below w6.heap.size w6 W8:=b7.trans (b8.mono b7.size);have hb58:Below W5.heap.size W5 W8:=hb6.trans (hb68.mono hb6.size);have HB58:=hid hb58;have hs8:=HAT.out.keep (HB15.out.trans (hb58.mono HB15.out.size));have hwB:Below w.heap.size w W8:=HB1.out.trans ((HB15.out.trans (hb58.mono HB15.out.size)).mono HB1.out.size);have hM8:=hM.below hb68
 have HCK:Hid (Calls Tryz.prog 10 #[.pointer (some ⟨sp,0,none⟩),.agg #[.int .i64 1,.slice (some ⟨G0+1,0,none⟩) 1 1],.slice (some ⟨w6.heap.size+1,0,none⟩) 1 1,.agg #[.slice aR 1 cR,.slice aS 1 cS]] W8 fun e w'=>∃ a' c' X,e=.returned (.tuple #[.slice a' 1 c',.int .i64 X,.bool true])/\Below W8.heap.size W8 w'):=by
  have hRR:=hM8.rdR (fun k hk j hj=>(Ik (q:=97) (by decide) (by decide) (by rw[Ao] at hk;exact hk) j hj).1);have hgv:gvs 97 L In L.length=[15]:=by rw[HLL.out.1];exact HLG.out
  have hla:Lst W8.heap.size W8 (some ⟨w6.heap.size+1,0,none⟩) 1 (gvs 97 L In L.length):=by
   rw[hgv];refine⟨fun k hk=>?_,by simp,fun h=>by cases h⟩;obtain rfl:k=0:=by simp at hk;exact hk
   exact⟨w6.heap.size+1,0,rfl,by omega,by simp[World.cell?,s8,zat]⟩
  have h:=Iy 97 n d sp b 1 1 cR cS 1 (some ⟨G0+1,0,none⟩) (some ⟨w6.heap.size+1,0,none⟩) aR aS L In W8 HOK.out hs8 (by decide) (HIT.out W8 sp b n d hs8 hwB) Qe HLC.out (HLT.out G0 W8 ((hb58.block _ (by have:=HGZ.out;omega)).trans HS5.out.1) ((hb58.block _ (by have:=HGZ.out;omega)).trans HS5.out.2.1)) HLV.out hRR hM8.lnR hla;rw[hgv,HLL.out.1] at h;refine h.mono ?_;rintro e w' ⟨a',c',rfl,_,hb⟩;exact⟨a',c',_,rfl,hb⟩
 rw[hW8] at o0 o1;rw[hW7] at o0 o1 c0 c1;have HW8:=hid hW8;have HW7:=hid hW7;have HWB:=hid hwB;clear hM hb6 hW7 hW8 b7 s7 z7 b8 s8 z8 hG2 z7' hO8 hb68 hb58 hs8 hwB hM8 HMK HX5 HG0;go_wp2_with fail;rw[<- HW7.out,<- HW8.out];clear c0 c1 o0 o1;refine HCK.out.mono ?_;rintro e w9 ⟨a',c',X,rfl,hb9⟩;have HE:=hid (HWB.out.trans (hb9.mono HWB.out.size));clear hb9 HCK;go_wp2_with fail;go_ret;exact⟨rfl,HE.out⟩
open Go.RowKit Go.Shelf
attribute [local go_sem] Oper.semAt_some
theorem aAT{zs:List Int} (h:k<zs.length):zs.take k++[zat zs k]=zs.take (k+1):=by
 unfold zat;rw[List.take_add_one,List.getElem?_eq_getElem h];simp
theorem aCU (F:Fence) (n:Nat) (hf:F.fn 157) (hro:F.round=none) (hn:1<=n) (l Bs n0 cap:Nat) (a:Option Addr) (zs:List Int) (hlen:zs.length<=140737488351232) (J Jx:List Int->World->Prop)
  (hY:∀ pre x W,J pre W->pre.length<zs.length->YieldAt F (n-1) Tryz.prog l #[.int .i64 x] W fun e W' =>
   (e=.returned (.bool true)/\J (pre++[x]) W'/\Below n0 W W')∨(e=.returned (.bool false)/\Jx (pre++[x]) W'))
  (W:World) (hBs:W.cell? ⟨Bs,0,none⟩=some (.slice a zs.length cap)) (hc:RowB n0 W a zs) (h0:J [] W) :
  CallsIn F n Tryz.prog 157 #[.func (.yield l) #[] #[],.pointer (some ⟨Bs,0,none⟩)] W fun e W'=>(∃ v,e=.returned v) /\
   ((∃ ys,ys=zs/\J ys W')∨(∃ pre,True/\Jx pre W')):=by
 have HC:=hid hc;clear hc;refine callsIn_of_wp Tryz.func157 rfl hf ?_ hro;simp only[Tryz.ntmps157,List.size_toArray,List.length_cons,List.length_nil,Nat.reduceAdd,Nat.reduceSub,Array.replicate_succ,Array.replicate_zero,List.push_toArray,List.append_toArray,List.nil_append,List.cons_append]
 gi_wp2
 gi_loopw [7] (fun iv wr=>∃ k:Nat,k<=zs.length/\iv=.int .i64 k/\J (zs.take k) wr/\Hid (Below n0 W wr))
  (fun iv _=>zs.length-(intOf iv).toNat)
 case atStart=>exact⟨0,Nat.zero_le _,rfl,h0,Below.refl _ _⟩
 case round =>
  obtain⟨k,hk,rfl,hJs,hkp⟩:=hrel;by_cases hlt:k<zs.length
  ·have hlt2:(k:Int)<(zs.length:Int):=by omega
   have hks:IntKind.i64.wrap ((k:Int)+1)=(k:Int)+1:=by rw[IntKind.wrap_i64];omega
   obtain⟨b,o,rfl,hbn,hcell⟩:=HC.out k hlt;have hcell2:=(hkp.out.cell (p:=⟨b,o+k,none⟩) hbn).trans hcell;obtain⟨fn,tmps,assign,body,hy,hR⟩:=hY (zs.take k) (zat zs k) wr hJs (by rw[List.length_take];omega);rw[aAT hlt] at hR;clear hcell HC;generalize zat zs k=x at *
   gi_wp2
   refine hR.mono ?_;rintro e W3 (⟨rfl,hJ3,hk3⟩ | ⟨rfl,hJx3⟩)
   ·have HK3:=hid (hkp.out.trans hk3);clear hk3
    gi_wp2
    go_roundw
    case rel=>exact⟨k+1,by omega,by go_num,hJ3,HK3⟩
    case measure=>simp[intOf];omega
   ·gi_wp2
    refine bodyPost_ret (results_none rfl _ _ _) rfl ?_;exact⟨⟨_,rfl⟩,.inr ⟨_,trivial,hJx3⟩⟩
  ·obtain rfl:k=zs.length:=by omega
   rw[List.take_length] at hJs
   gi_wp2
   go_end0;exact⟨⟨_,rfl⟩,.inl ⟨_,rfl,hJs⟩⟩
theorem aCV (a:Option Addr) (len cap:Nat) (w:World) :
  Calls Tryz.prog 123 #[.slice a len cap] w fun e w'=>e=.returned (.func (.func 157) #[] #[.pointer (some ⟨w.heap.size,0,none⟩)])/\w'=w.alloc (.cells #[.slice a len cap] 25):=by
 go_enter Tryz.func123,Tryz.ntmps123;go_wp2;go_ret;exact⟨rfl,rfl⟩
theorem Xn (F:Fence) (n:Nat) (hf:F.fn 157) (hro:F.round=none) (hn:1<=n) (Bs n0 cap:Nat) (a:Option Addr) (zs:List Int) (hlen:zs.length<=140737488351232) (w:World) (hn0:n0<=w.heap.size)
  (hc:w.cell? ⟨Bs,0,none⟩=some (.slice a zs.length cap)) (hbs:Bs<w.heap.size) (hI:RowB n0 w a zs) :
  SeqStopsK F n Tryz.prog 157 #[.pointer (some ⟨Bs,0,none⟩)] (fun x:Int=>#[Value.int .i64 x]) (Below n0) (fun ys=>ys=zs)
   (fun _=>True) zs.length w:=fun l J Jx W hW _ _ hY h0 =>
 aCU F n hf hro hn l Bs n0 cap a zs hlen J Jx hY W ((hW.cell (p:=⟨Bs,0,none⟩) hbs).trans hc) (RowB.below (hW.mono hn0) hI) h0
theorem Nr (Bs cap:Nat) (a:Option Addr) (zs:List Int) (w:World) (hlen:zs.length<=17592186044400) (hc:w.cell? ⟨Bs,0,none⟩=some (.slice a zs.length cap)) (hI:RowB w.heap.size w a zs) :
  Calls Tryz.prog 179 #[.slice none 0 0,.func (.func 157) #[] #[.pointer (some ⟨Bs,0,none⟩)]] w fun e w'=>∃ v,e=.returned v/\w'.ownsRow w.heap.size 3 1 v zs.length (zs.map (Value.int .i64))/\(v=.slice none 0 0↔zs=[])/\Below w.heap.size w w':=by
 have hbs:Bs<w.heap.size:=qK hc;obtain⟨i0,hi,hz0,hz1,hz2⟩:=info_parts Tryz.infoInt;refine (callsIn_wide (n:=8)).1 ?_;refine callsIn_of_wp_marks Tryz.func179 rfl trivial ?_ rfl;simp only[Tryz.ntmps179,List.size_toArray,List.length_cons,List.length_nil,Nat.reduceAdd,Nat.reduceSub,Array.replicate_succ,Array.replicate_zero,List.push_toArray,List.append_toArray,List.nil_append,List.cons_append]
 gi_wp2
 have bO:=Boxed.new w 25 (.slice none 0 0);have hB0:Below w.heap.size w (w.alloc (.cells #[.slice none 0 0] 25)):=(Below.refl _ w).alloc (Nat.le_refl _) _;have hc0:=(hB0.cell (p:=⟨Bs,0,none⟩) hbs).trans hc
 refine wpIn_rangeFunc_ownG rfl (by omega) (gf:=157) (lb:=#[.pointer (some ⟨Bs,0,none⟩)]) rfl trivial (xZ Tryz.func157 (by kernel_rfl) (by kernel_rfl))
  (Xn Fence.wide 7 trivial rfl (by omega) Bs w.heap.size cap a zs (by omega) (w.alloc (.cells #[.slice none 0 0] 25)) (by simp) hc0 (by simp;omega) (RowB.below hB0 hI)) belowK_t (belowK_b (by simp)) (Below.refl _ _) (fun _=>rfl)
  (fun pre W=>(∃ v,Boxed W w.heap.size 25 v/\W.ownsRow w.heap.size 3 1 v pre.length (pre.map (Value.int .i64))/\(v=.slice none 0 0↔pre=[]))/\Below w.heap.size w W)
  (fun _ _ _=>False)
  (OwnFrom.and (Own.from (holdsRow_own w.heap.size w.heap.size 25 3 1 (fun pre:List Int=>pre.length) (fun pre=>pre.map (Value.int .i64)) (fun pre v=>v=.slice none 0 0↔pre=[])) _) (ownFrom_below (Nat.le_refl _) (by simp)))
  (fun _ _ _ _ _ hs _ _=>hs)
  ⟨⟨_,bO,World.ownsRow_nil _ _ _ _,by simp⟩,hB0⟩
  (fun x=>{ tmps:=#[.slice none 0 0,.func (.func 157) #[] #[.pointer (some ⟨Bs,0,none⟩)],.pointer (some ⟨w.heap.size,0,none⟩),undef,.slice none 0 0,.int .i64 x,.func (.func 157) #[] #[.pointer (some ⟨Bs,0,none⟩)],.int .i64 x,undef,undef,undef,undef,undef],defers:=[] }) ?assign ?body ?done ?stop
 case assign =>
  intro l x W K hK
  gi_wp2
  exact hK
 case body =>
  rintro l pre x W ⟨⟨v,hv,hrow,hnil⟩,hB⟩ hlt;have hcv:=hv.cell
  gi_wp2_with (gi_at_builtin;refine wpListIn_append_own _ rfl _ _ 25 rfl w.heap.size 3 i0 (.int .i64 0) 1 8 Tryz.underlying25 hi hz0 hz1 hz2 rfl (by decide) _ _ _ rfl (hrow.alloc _) ⟨W.heap.size,0,none⟩ 1 1 [.int .i64 x] rfl rfl (cell_one_new _ _ _) (by simp[Value.oneCell']) (by unfold maxLen;omega) (by omega) (by have:=hB.size;simp;omega) ?_;intro v' w1 hown' hgrow _;obtain⟨g',cap',rfl⟩:=ownsRow_succ hown';obtain⟨hv1,hv2,hr2,hk2,hb2⟩:=hv.appended (by decide) hrow hB.size (Nat.le_refl _) hown' hgrow;have hc1:=hv1.cell;have hf1:=hv1.frozen)
  exact⟨hk2.from _,hb2,⟨_,hv2,by simpa using hr2,by simp⟩,hB.trans hb2⟩
 case done =>
  rintro D ys W hD rfl ⟨⟨v,hv,hrow,hnil⟩,hB⟩ hK;have hcv:=hv.cell
  gi_wp2
  refine⟨by simp,.inl ⟨_,_,rfl,run_takeDeferred hK,?_⟩⟩;exact⟨_,results_tmp rfl _ _ _,v,rfl,ownsRow_putObj hrow _ hK rfl,hnil,hB.trans (belowK_b (w:=w) (Nat.le_refl _) W D _ _ (by simp at hD;omega) hK rfl rfl)⟩
 case stop =>
  rintro D c pre W _ _ h _;exact h.elim
theorem Tz (Bs cap:Nat) (a:Option Addr) (zs:List Int) (w:World) (hlen:zs.length<=17592186044400) (hc:w.cell? ⟨Bs,0,none⟩=some (.slice a zs.length cap)) (hI:RowB w.heap.size w a zs) :
  Calls Tryz.prog 156 #[.func (.func 157) #[] #[.pointer (some ⟨Bs,0,none⟩)]] w fun e w'=>∃ v,e=.returned v/\w'.ownsRow w.heap.size 3 1 v zs.length (zs.map (Value.int .i64))/\(v=.slice none 0 0↔zs=[])/\Below w.heap.size w w':=by
 have HA:=hid (Nr Bs cap a zs w hlen hc hI);clear hc hI;go_enter Tryz.func156,Tryz.ntmps156;go_wp2_with fail;refine HA.out.mono ?_;rintro e w1 ⟨v,rfl,h⟩;have H:=hid h;clear h;go_wp2_with fail;go_ret;exact⟨v,rfl,H.out⟩
def wiB (m:Nat) (rows:List (List Int)):Bool:=rows.all fun r=>r.length==m
theorem Zy (h:∀ k,k<rows.length->(rat rows k).length=m):wiB m rows=true:=by
 unfold wiB;rw[List.all_eq_true];intro r hr;obtain⟨k,hk,rfl⟩:=List.mem_iff_getElem.1 hr;have:=h k hk;simp[rat,hk] at this;simp[this]
theorem aCW (h:wiB m rows=true) {k:Nat} (hk:k<rows.length):(rat rows k).length=m:=by
 unfold wiB at h;rw[List.all_eq_true] at h;have:=h rows[k] (List.getElem_mem hk);simp at this;simp[rat,hk,this]
theorem aF7 (hk:k<rows.length) (h:(rat rows k).length≠m):wiB m rows=false:=by
 cases e:wiB m rows with
 | false=>rfl
 | true=>exact absurd (aCW e hk) h
theorem aCX (n cap m B:Nat) (a:Option Addr) (w:World) (h:w.cell? ⟨B,0,none⟩=some (.int .i64 (m:Int))) :
  Calls Tryz.prog 133 #[.slice a n cap,.pointer (some ⟨B,0,none⟩)] w fun e w'=>e=.returned (.bool (!((n:Int)==(m:Int))))/\w'=w:=by
 go_enter Tryz.func133,Tryz.ntmps133;go_wp2_with fail;go_ret;exact⟨rfl,rfl⟩
theorem Xo (cap m B:Nat) (a:Option Addr) (rows:List (List Int)) (w:World) (h:w.cell? ⟨B,0,none⟩=some (.int .i64 (m:Int))) (hlen:rows.length<=281474976710656) (hl:LstR w.heap.size w a cap rows) :
  Calls Tryz.prog 162 #[.slice a rows.length cap,.func (.func 133) #[] #[.pointer (some ⟨B,0,none⟩)]] w fun e w'=>(∃ r:Int,e=.returned (.int .i64 r)/\decide (0<=r)=!(wiB m rows))/\w'=w:=by
 have hcf:=xZ Tryz.func133 (by kernel_rfl) (by kernel_rfl);have HL:=hid hl;have HE1:Hid (∀ (k:Nat) (ak:Option Addr) (ck:Nat),Calls Tryz.prog 133 #[.slice ak (rat rows k).length ck,.pointer (some ⟨B,0,none⟩)] w fun e w'=>e=.returned (.bool (!(((rat rows k).length:Int)==(m:Int))))/\w'=w):=fun k ak ck=>aCX _ ck m B ak w h;obtain⟨n,hn⟩:=exE (rows.length);rw[<- hn] at hlen ⊢;have HN:=hid hn;obtain⟨R,hR⟩:=exE (wiB m rows);have HR:=hid hR;rw[<- hR];clear hl hn hR;go_enter Tryz.func162,Tryz.ntmps162;go_wp2_with fail;go_loop [8] (fun iv=>∃ k:Nat,k<=n/\iv=.int .i64 k/\Hid (∀ j,j<k->(rat rows j).length=m)) (fun iv=>n-(intOf iv).toNat)
 case atStart=>exact⟨0,by omega,rfl,fun j hj=>by omega⟩
 case round =>
  obtain⟨k,hk,rfl,hI⟩:=hrel;by_cases hlt:k<n
  ·have hlt2:(k:Int)<(n:Int):=by omega
   have hks:IntKind.i64.wrap ((k:Int)+1)=(k:Int)+1:=by rw[IntKind.wrap_i64];omega
   obtain⟨b0,o0,ak,ck,rfl,_,hc,_⟩:=HL.out.row k (by rw[<- HN.out];exact hlt);have HX:=HE1.out k ak ck;by_cases hb:(rat rows k).length=m
   ·have q:(((rat rows k).length:Int)==(m:Int))=true:=by rw[hb,beq_self_eq_true]
    rw[q] at HX;have HXX:=hid HX
    have HE:Hid (∀ j,j<k+1->(rat rows j).length=m):=fun j hj=>by
     by_cases e:j=k
     ·rw[e];exact hb
     ·exact hI.out j (by omega)
    clear hI HX hb q;generalize (rat rows k).length=L at *;go_wp2_with fail;refine HXX.out.mono ?_;rintro e w1 ⟨rfl,rfl⟩;go_wp2_with fail
    go_round
    case rel=>exact⟨k+1,by omega,by go_num,HE⟩
    case measure=>simp[intOf];omega
   ·have q:(((rat rows k).length:Int)==(m:Int))=false:=by rw[beq_eq_false_iff_ne];omega
    rw[q] at HX;have HXX:=hid HX;have HE:Hid (R=false):=by unfold Hid;rw[HR.out];exact aF7 (by rw[<- HN.out];exact hlt) hb
    clear hI HX hb q;generalize (rat rows k).length=L at *;go_wp2_with fail;refine HXX.out.mono ?_;rintro e w1 ⟨rfl,rfl⟩;go_wp2_with fail;go_ret;refine⟨⟨(k:Int),rfl,?_⟩,rfl⟩;rw[HE.out];simp
  ·obtain rfl:k=n:=by omega
   have hlt2:¬ (k:Int)<(k:Int):=by omega
   have HE:Hid (R=true):=by unfold Hid;rw[HR.out];exact Zy (fun j hj=>hI.out j (by rw[HN.out];exact hj))
   clear hI;go_wp2_with fail;go_ret;refine⟨⟨-1,rfl,?_⟩,rfl⟩;rw[HE.out];simp
theorem Ns (cap m B:Nat) (a:Option Addr) (rows:List (List Int)) (w:World) (h:w.cell? ⟨B,0,none⟩=some (.int .i64 (m:Int))) (hlen:rows.length<=281474976710656) (hl:LstR w.heap.size w a cap rows) :
  Calls Tryz.prog 132 #[.slice a rows.length cap,.func (.func 133) #[] #[.pointer (some ⟨B,0,none⟩)]] w fun e w'=>e=.returned (.bool (!(wiB m rows)))/\w'=w:=by
 have HI:=hid (Xo cap m B a rows w h hlen hl);clear hl h;generalize wiB m rows=E at *;generalize rows.length=n at *;go_enter Tryz.func132,Tryz.ntmps132;go_wp2_with fail;refine HI.out.mono ?_;rintro e w1 ⟨⟨r,rfl,hr⟩,rfl⟩;have HRR:=hid hr;clear hr HI;go_wp2_with fail;go_ret;exact⟨by rw[<- HRR.out];rfl,rfl⟩
theorem Ua (cap m:Nat) (a:Option Addr) (rows:List (List Int)) (w:World) (hlen:rows.length<=281474976710656) (hl:LstR w.heap.size w a cap rows) :
  Calls Tryz.prog 86 #[.slice a rows.length cap,.int .i64 (m:Int)] w fun e w'=>e=.returned (.bool (wiB m rows))/\Below w.heap.size w w':=by
 obtain⟨W0,hW0⟩:=exE (w.alloc (.cells #[.int .i64 (m:Int)] 3));have hb0:=blA hW0;have hs0:=haA hW0;have HC:=hid (Ns cap m w.heap.size a rows W0 (by simp[World.cell?,hs0]) hlen ((hl.below hb0).mono hb0.size));have HB0:=hid hb0;clear hl hb0 hs0;generalize wiB m rows=E at *;generalize rows.length=n at *;go_enter Tryz.func86,Tryz.ntmps86;go_wp2_with fail;rw[<- hW0];clear hW0;refine HC.out.mono ?_;rintro e w1 ⟨rfl,hw⟩;have hw1:=hw.symm;subst hw1;go_wp2_with fail;go_ret;exact⟨by first | rfl | simp,HB0.out⟩
theorem Mk (cap j:Nat) (a:Option Addr) (rows:List (List Int)) (w:World) (hn:rows.length<=17592186044000) (hj:∀ k,k<rows.length->j<(rat rows k).length) (hl:LstR w.heap.size w a cap rows) :
  Calls Tryz.prog 74 #[.slice a rows.length cap,.int .i64 (j:Int)] w fun e w'=>e=.returned (.slice (some ⟨w.heap.size,0,none⟩) rows.length rows.length)/\ArrI w' w.heap.size 3 rows.length (zat (pgc rows j))/\Below w.heap.size w w':=by
 have HL:=hid hl;have HJ:=hid hj;obtain⟨n,hnn⟩:=exE (rows.length);rw[<- hnn] at hn ⊢;have HN:=hid hnn;obtain⟨G,hG⟩:∃ G:Nat->Int,G=zat (pgc rows j):=⟨_,rfl⟩
 rw[<- hG];have HG:Hid (∀ k,k<n->zat (rat rows k) j=G k):=fun k hk=>by rw[hG,Qh j (by omega)]
 have hmk2:=fun w=>run_make_row' (P:=Tryz.prog) 25 3 (.int .i64 0) 8 Tryz.underlying25 Tryz.infoInt rfl .i64 .i64 n (by omega) (by omega) w;clear hl hj hnn hG;go_enter Tryz.func74,Tryz.ntmps74;go_wp2_with fail;go_loopw [6,7,13] (fun _ _ iv wr=>∃ k:Nat,k<=n/\iv=.int .i64 k/\Hid (ArrI wr w.heap.size 3 n (fll G (fun _=>0) k)/\Below w.heap.size w wr)) (fun _ _ iv _=>n-(intOf iv).toNat)
 case atStart=>exact⟨0,by omega,rfl,by rw[jJ];exact World.rowIs_made _ _ _ _,(Below.refl _ _).alloc (Nat.le_refl _) _⟩
 case round =>
  obtain⟨k,hk,rfl,hI⟩:=hrel;by_cases hlt:k<n
  ·have hlt2:(k:Int)<(n:Int):=by omega
   have hks:IntKind.i64.wrap ((k:Int)+1)=(k:Int)+1:=by rw[IntKind.wrap_i64];omega
   obtain⟨b0,o0,ak,ck,rfl,hb0,hc,hlk⟩:=HL.out.row k (by rw[<- HN.out];exact hlt);have hjk:=HJ.out k (by rw[<- HN.out];exact hlt);obtain⟨b1,o1,rfl,hb1,hd⟩:=hlk.row j hjk;have hc2:=(hI.out.2.cell (p:=⟨b0,o0+k,none⟩) hb0).trans hc;have hd2:=(hI.out.2.cell (p:=⟨b1,o1+j,none⟩) hb1).trans hd;rw[HG.out k hlt] at hd2;have hjk2:(j:Int)<((rat rows k).length:Int):=by omega
   have c1:=hI.out.1.cell hlt;have y1:=hI.out.1.frozen k;have HA2:=hid hI.out.1.next
   have HBL:=hid (hI.out.2.setCell (p:=⟨w.heap.size,k,none⟩) (by simp) (.int .i64 (G k)));generalize (rat rows k).length=L at *;generalize G k=y at *;generalize fll G (fun _=>0) k k=y0 at *;clear hI hc hd hlk;go_wp2_with fail;go_roundw
   case rel=>exact⟨k+1,by omega,by go_num,HA2.out,HBL.out⟩
   case measure=>simp[intOf];omega
  ·obtain rfl:k=n:=by omega
   have hlt2:¬ (k:Int)<(k:Int):=by omega
   have HE:Hid (ArrI wr w.heap.size 3 k G/\Below w.heap.size w wr):=⟨hI.out.1.congr (fun j hj=>zV hj),hI.out.2⟩
   clear hI;go_wp2_with fail;go_ret;exact⟨rfl,HE.out⟩
theorem Iz (F cap m:Nat) (caps:Array Value) (A:List Int->Int) (a:Option Addr) (rows:List (List Int)) (w:World) (h1:1<=rows.length) (hn:rows.length<=17592186044000) (hm:m<=17592186044000) (hw:∀ k,k<rows.length->(rat rows k).length=m) (hl:LstR w.heap.size w a cap rows)
  (hcf:∀ (args:Array Value) (w1:World),(callFunc F args).run Tryz.prog w1=.ok (.enter F args) w1)
  (HQ:∀ (W:World) (g j:Nat),Below w.heap.size w W->j<m->ArrI W g 3 rows.length (zat (pgc rows j))->Calls Tryz.prog F (#[.slice (some ⟨g,0,none⟩) rows.length rows.length]++caps) W fun e w'=>e=.returned (.int .i64 (A (pgc rows j)))/\Below W.heap.size W w') :
  Calls Tryz.prog 75 #[.slice a rows.length cap,.func (.func F) #[] caps] w fun e w'=>e=.returned (.slice (some ⟨w.heap.size,0,none⟩) m m)/\ArrI w' w.heap.size 3 m (fun j=>A (pgc rows j))/\Below w.heap.size w w':=by
 have HCO:Hid (∀ (W:World) (j:Nat),Below w.heap.size w W->j<m->Calls Tryz.prog 74 #[.slice a rows.length cap,.int .i64 (j:Int)] W fun e w'=>e=.returned (.slice (some ⟨W.heap.size,0,none⟩) rows.length rows.length)/\ArrI w' W.heap.size 3 rows.length (zat (pgc rows j))/\Below W.heap.size W w') :=
  fun W j hW hj=>Mk cap j a rows W hn (fun k hk=>by rw[hw k hk];exact hj) ((hl.below hW).mono hW.size)
 have HQQ:=hid HQ;obtain⟨b0,o0,a0,c0,rfl,hb0,hc0,_⟩:=hl.row 0 (by omega);rw[hw 0 (by omega),Nat.add_zero] at hc0;obtain⟨n,hnn⟩:=exE (rows.length);simp only[<- hnn] at HCO HQQ h1 hn ⊢;have h1':(0:Int)<(n:Int):=by omega
 obtain⟨G,hG⟩:∃ G:Nat->Int,G=fun j=>A (pgc rows j):=⟨_,rfl⟩
 rw[<- hG];have HG:Hid (∀ k,A (pgc rows k)=G k):=fun k=>by rw[hG]
 have hmk2:=fun w=>run_make_row' (P:=Tryz.prog) 25 3 (.int .i64 0) 8 Tryz.underlying25 Tryz.infoInt rfl .i64 .i64 m (by omega) (by omega) w;clear hl hw hnn hG HQ;go_enter Tryz.func75,Tryz.ntmps75;go_wp2_with fail;go_loopw [6,14] (fun _ iv wr=>∃ k:Nat,k<=m/\iv=.int .i64 k/\Hid (ArrI wr w.heap.size 3 m (fll G (fun _=>0) k)/\Below w.heap.size w wr)) (fun _ iv _=>m-(intOf iv).toNat)
 case atStart=>exact⟨0,by omega,rfl,by rw[jJ];exact World.rowIs_made _ _ _ _,(Below.refl _ _).alloc (Nat.le_refl _) _⟩
 case round =>
  obtain⟨k,hk,rfl,hI⟩:=hrel;by_cases hlt:k<m
  ·have hlt2:(k:Int)<(m:Int):=by omega
   have hks:IntKind.i64.wrap ((k:Int)+1)=(k:Int)+1:=by rw[IntKind.wrap_i64];omega
   go_wp2_with fail;refine (HCO.out wr k hI.out.2 hlt).mono ?_;rintro e w1 ⟨rfl,har,hb1⟩;have HQ1:=hid (HQQ.out w1 wr.heap.size k (hI.out.2.trans (hb1.mono hI.out.2.size)) hlt har);rw[HG.out k] at HQ1;have HA1:Hid (ArrI w1 w.heap.size 3 m (fll G (fun _=>0) k)):=hI.out.1.below hb1 hI.out.1.lt;have HB1:Hid (Below w.heap.size w w1):=hI.out.2.trans (hb1.mono hI.out.2.size);clear hI har hb1;go_wp2_with fail;refine HQ1.out.mono ?_;rintro e w2 ⟨rfl,hb2⟩;have hA:=HA1.out.below hb2 HA1.out.lt;have c1:=hA.cell hlt;have y1:=hA.frozen k;have HA2:=hid hA.next
   have HBL:=hid ((HB1.out.trans (hb2.mono HB1.out.size)).setCell (p:=⟨w.heap.size,k,none⟩) (by simp) (.int .i64 (G k)));generalize G k=y at *;generalize fll G (fun _=>0) k k=y0 at *;clear hA hb2 HA1 HB1 HQ1;go_wp2_with fail;go_roundw
   case rel=>exact⟨k+1,by omega,by go_num,HA2.out,HBL.out⟩
   case measure=>simp[intOf];omega
  ·obtain rfl:k=m:=by omega
   have hlt2:¬ (k:Int)<(k:Int):=by omega
   have HE:Hid (ArrI wr w.heap.size 3 k G/\Below w.heap.size w wr):=⟨hI.out.1.congr (fun j hj=>zV hj),hI.out.2⟩
   clear hI;go_wp2_with fail;go_ret;exact⟨rfl,HE.out⟩
end Go.Proofs.YtkdndfbfmchcpaaGreatDoor
