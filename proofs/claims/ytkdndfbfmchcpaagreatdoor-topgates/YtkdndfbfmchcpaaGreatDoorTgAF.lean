
import Derived.Test.YtkdndfbfmchcpaaGreatDoorTgAE
set_option maxRecDepth 1000000
set_option maxHeartbeats 8000000
namespace Go.Proofs.YtkdndfbfmchcpaaGreatDoor
open Go.RowKit
theorem Qi (n:Nat):0<=vrs n↔∃ v:Nat,v<=12/\n=2 ^ v:=by
 constructor
 ·intro h;obtain⟨v,h1,h2,_⟩:=aFx h;exact⟨v,h1,h2⟩
 ·rintro⟨v,h1,h2⟩;rw[Zj h1 h2];omega
theorem aCx {v:Nat} (h:v<=12):2 ^ v<=4096:=by
 have:2 ^ v<=2 ^ 12:=Nat.pow_le_pow_right (by omega) h;omega
theorem Tc (n cap:Nat) (a:Option Addr) (w:World) (hn:n<=281474976710656) :
  Calls Tryz.prog 144 #[.slice a n cap] w fun e w'=>e=.returned (.bool (decide (0<=vrs n)))/\w'=w:=by
 by_cases h1:n<=4096
 ·have HO:=hid (Fj n w (by omega));have h2:(n:Int)<=4096:=by omega
  have HB:Hid ((((pnz n:Nat):Int)==1)=decide (0<=vrs n)):=by
   unfold Hid;rw[Bool.eq_iff_iff,beq_iff_eq,decide_eq_true_eq,Qi];constructor
   ·intro h;obtain⟨k,hk,rfl⟩:=(Eh (n:=n) (by omega)).1 (by omega);refine⟨k,?_,rfl⟩;rcases Nat.lt_or_ge 12 k with g | g
    ·have:2 ^ 13<=2 ^ k:=Nat.pow_le_pow_right (by omega) g;omega
    ·exact g
   ·rintro⟨v,hv,rfl⟩;rw[(Eh (by omega)).2 ⟨v,by omega,rfl⟩];rfl
  generalize pnz n=z at *;generalize decide (0<=vrs n)=B at *;go_enter Tryz.func144,Tryz.ntmps144;go_wp2_with fail;refine HO.out.mono ?_;rintro e w1 ⟨rfl,rfl⟩;go_wp2_with fail;go_ret;exact⟨by rw[<- HB.out];rfl,rfl⟩
 ·have h2:¬ (n:Int)<=4096:=by omega
  have HB:decide (0<=vrs n)=false:=by rw[decide_eq_false_iff_not,Qi];rintro⟨v,hv,rfl⟩;have:=aCx hv;omega
  rw[HB];clear HB;go_enter Tryz.func144,Tryz.ntmps144;go_wp2_with fail;go_ret;exact⟨rfl,rfl⟩
theorem aAM (p b c1:Nat) (a1:Option Addr) (t:List Int) (r:Int) (w:World) (n1:Nat) (h3:3<=p) (hm:p<=2147483647) (hp:w.cell? ⟨b,0,none⟩=some (.int .i64 p)) (hl:t.length<=17592186043904) (hf1:Fits t) (hr1:-9223372036854775808<=r) (hr2:r<=9223372036854775807) (hrow:RowB n1 w a1 t) (hn1:n1<=w.heap.size) :
  Calls Tryz.prog 146 #[.pointer (some ⟨b,0,none⟩),.slice a1 t.length c1,.int .i64 r] w fun e w'=>e=.returned (.slice (some ⟨w.heap.size,0,none⟩) (t.length / 2) (t.length / 2))/\ArrI w' w.heap.size 3 (t.length / 2) (zat (Ie p t r))/\Below w.heap.size w w':=by
 have HF1:=hid hf1;have HR1:=hid hrow;have HP:=hid hp;have hbl:b<w.heap.size:=qK hp;obtain⟨N,hN⟩:=exE (t.length);obtain⟨h,hh⟩:=exE (N / 2)
 have q1:IntKind.i64.wrap ((N:Int).tdiv 2)=(h:Int):=by rw[Int.tdiv_eq_ediv_of_nonneg (by omega),IntKind.wrap_i64];omega
 have q0:(N:Int) / 2=(h:Int):=by omega
 have q2:IntKind.i64.wrap (h:Int)=(h:Int):=by rw[IntKind.wrap_i64];omega
 have hhN:h+h<=N:=by omega
 rw[<- hN] at hl ⊢;rw[<- hh];have HN:=hid hN;have HH:Hid (h=t.length / 2):=by unfold Hid;rw[hh,hN]
 obtain⟨G,hG⟩:∃ G:Nat->Int,G=zat (Ie p t r):=⟨_,rfl⟩
 rw[<- hG];have HG:Hid (∀ i,i<h->G i=(zat t i*(1-r)+zat t (i+h)*r) % (p:Int)):=fun i hi=>by rw[hG,HH.out];exact Qd (by rw[<- HH.out];exact hi)
 have hmx:Tryz.prog.follows .mixedOrders=true:=by kernel_rfl
 clear hf1 hrow hN hh hG hp;have hmk2:=fun w=>run_make_row' (P:=Tryz.prog) 25 3 (.int .i64 0) 8 Tryz.underlying25 Tryz.infoInt rfl .i64 .i64 h (by omega) (by omega) w;go_enter Tryz.func146,Tryz.ntmps146;go_wp2_with fail;go_loopw [17] (fun iv wr=>∃ k:Nat,k<=h/\iv=.int .i64 k/\Hid (ArrI wr w.heap.size 3 h (fll G (fun _=>0) k)/\Below w.heap.size w wr)) (fun iv _=>h-(intOf iv).toNat)
 case atStart=>exact⟨0,by omega,rfl,by rw[jJ];exact World.rowIs_made _ _ _ _,(Below.refl _ _).alloc (Nat.le_refl _) _⟩
 case round =>
  obtain⟨k,hk,rfl,hI⟩:=hrel;by_cases hlt:k<h
  ·have hlt2:(k:Int)<(h:Int):=by omega
   have hkN:(k:Int)<(N:Int):=by omega
   have hks:IntKind.i64.wrap ((k:Int)+1)=(k:Int)+1:=by rw[IntKind.wrap_i64];omega
   obtain⟨bt,ot,rfl,hb,hc⟩:=HR1.out k (by rw[<- HN.out];omega);obtain⟨_,_,e1,_,hd⟩:=HR1.out (k+h) (by rw[<- HN.out];omega);cases e1;have hc2:=(hI.out.2.cell (p:=⟨bt,ot+k,none⟩) (show bt<w.heap.size by omega)).trans hc;have hd2:=(hI.out.2.cell (p:=⟨bt,ot+(k+h),none⟩) (show bt<w.heap.size by omega)).trans hd;have hpc:=(hI.out.2.cell (p:=⟨b,0,none⟩) hbl).trans HP.out;obtain⟨f1,f2⟩:=HF1.out.all k;obtain⟨g1,g2⟩:=HF1.out.all (k+h);have HGk:Hid (G k=(zat t k*(1-r)+zat t (k+h)*r) % (p:Int)):=HG.out k hlt;obtain⟨kh,hkh⟩:=exE (k+h);have k1:IntKind.i64.wrap ((h:Int)+(k:Int))=(kh:Int):=by rw[IntKind.wrap_i64];omega
   have k0:(h:Int)+(k:Int)=(kh:Int):=by omega
   have k3:IntKind.i64.wrap (kh:Int)=(kh:Int):=by rw[IntKind.wrap_i64];omega
   have k2:(kh:Int)<(N:Int):=by omega
   rw[<- hkh] at hd2 g1 g2 HGk;generalize zat t k=x at *;generalize zat t kh=y at *;have HSU:=hid (Ej p b y x wr.drew h3 hm hpc g1 g2 f1 f2);obtain⟨m1,m2⟩:=qQ (y-x) p h3;have HSD:=hid (Gg p (y-x));generalize (y-x) % (p:Int)=sm' at *;have HMU:=hid (kK p b r sm' wr.drew h3 hm hpc hr1 hr2 (by omega) (by omega));obtain⟨m3,m4⟩:=qQ (r*sm') p h3;have HMD:=hid (Gg p (r*sm'));generalize r*sm' % (p:Int)=mm at *;have HAD:=hid (yV p b x mm wr.drew h3 hm hpc f1 f2 (by omega) (by omega))
   have HS:Hid ((x+mm) % (p:Int)=G k):=by
    unfold Hid;rw[HGk.out,Pol.emod_eq_iff (by omega)];have e2:=Int.dvd_mul_of_dvd_right (b:=r) HSD.out;have e3:=Int.dvd_add HMD.out e2
    rwa [show mm-r*sm'+r*(sm'-(y-x))=x+mm-(x*(1-r)+y*r) from by grind] at e3
   rw[HS.out] at HAD;have c1:=hI.out.1.cell hlt;have y1:=hI.out.1.frozen k;have HE:Hid (ArrI (wr.setCell ⟨w.heap.size,k,none⟩ (.int .i64 (G k))).drew w.heap.size 3 h (fll G (fun _=>0) (k+1))/\Below w.heap.size w (wr.setCell ⟨w.heap.size,k,none⟩ (.int .i64 (G k))).drew):=⟨hI.out.1.next,(hI.out.2.setCell (p:=⟨w.heap.size,k,none⟩) (by simp) _).drew⟩
   generalize G k=z at *;generalize fll G (fun _=>0) k k=y0 at *;clear hI hc hd hkh HGk HS HSD HMD hb hpc;go_wp2_with fail;go_still_tail 24,hmx
   still_call HSU.out
   repeat still_step
   still_call HMU.out
   repeat still_step
   still_call HAD.out
   repeat still_step
   refine wpStill_nil ?_;go_wp2_with fail;go_roundw
   case rel=>exact⟨k+1,by omega,by go_num,HE⟩
   case measure=>simp[intOf];omega
  ·obtain rfl:k=h:=by omega
   have hlt2:¬ (k:Int)<(k:Int):=by omega
   have HE:Hid (ArrI wr w.heap.size 3 k G/\Below w.heap.size w wr):=⟨hI.out.1.congr (fun j hj=>zV hj),hI.out.2⟩
   clear hI;go_wp2_with fail;go_ret;exact⟨rfl,HE.out⟩
end Go.Proofs.YtkdndfbfmchcpaaGreatDoor
namespace Go.Proofs
open Go.Shelf
def Tryz.laysTz_ren:Go.Shelf.Ren:=⟨fun | 27=>69 | 28=>117 | 29=>118 | n=>n,fun | 0=>0 | 3=>3 | 4=>4 | 5=>5 | 22=>147 | 25=>123 | 27=>145 | 53=>193 | 54=>194 | n=>n,fun | 0=>0 | 1=>1 | n=>n⟩
theorem Tryz.laysTz:Go.Proofs.Lays7.n27 Tryz.prog Tryz.laysTz_ren:={
 mixed:=by kernel_rfl
 f27:=Tryz.func69.trans (congrArg some (by kernel_rfl))
 f28:=Tryz.func117.trans (congrArg some (by kernel_rfl))
 f29:=Tryz.func118.trans (congrArg some (by kernel_rfl))
 t0:=Tryz.underlying0
 a0:=Tryz.isAgg0
 z0:=Tryz.sizeOf0
 v0:=Tryz.zeroValue0
 i0:=by kernel_rfl
 t3:=Tryz.underlying3
 a3:=Tryz.isAgg3
 z3:=Tryz.sizeOf3
 v3:=Tryz.zeroValue3
 i3:=by kernel_rfl
 t4:=Tryz.underlying4
 a4:=Tryz.isAgg4
 z4:=Tryz.sizeOf4
 v4:=Tryz.zeroValue4
 i4:=by kernel_rfl
 t5:=Tryz.underlying5
 a5:=Tryz.isAgg5
 z5:=Tryz.sizeOf5
 v5:=Tryz.zeroValue5
 i5:=by kernel_rfl
 t22:=Tryz.underlying147
 a22:=Tryz.isAgg147
 z22:=Tryz.sizeOf147
 v22:=Tryz.zeroValue147
 i22:=by kernel_rfl
 t25:=Tryz.underlying123
 a25:=Tryz.isAgg123
 z25:=Tryz.sizeOf123
 v25:=Tryz.zeroValue123
 i25:=by kernel_rfl
 t27:=Tryz.underlying145
 a27:=Tryz.isAgg145
 z27:=Tryz.sizeOf145
 v27:=Tryz.zeroValue145
 i27:=by kernel_rfl
 t53:=Tryz.underlying193
 a53:=Tryz.isAgg193
 z53:=Tryz.sizeOf193
 v53:=Tryz.zeroValue193
 i53:=by kernel_rfl
 t54:=Tryz.underlying194
 a54:=Tryz.isAgg194
 z54:=Tryz.sizeOf194
 g0:=by kernel_rfl
 g1:=by kernel_rfl }
theorem YtkdndfbfmchcpaaGreatDoor.tz_any (x:Nat) (hx0:x≠0) (hx:x<=2147483647) (w:World) (hT:TabAt 1 Lib.deBruijn64tab w) :
  Calls Tryz.prog 69 #[.int .u64 x] w fun e w'=>∃ S m:Nat,e=.returned (.int .i64 S)/\S<64/\x=2 ^ S*(2*m+1)/\w'=w:=by
 refine (Any7.bits_TrailingZeros Tryz.laysTz x (by omega) w (fun _=>hT)).mono fun e w' ⟨he,hw⟩=>?_;obtain⟨m,h1,h2⟩:=Lib.ctzFrom_spec 64 x (by omega) (Nat.lt_of_le_of_lt hx (by decide));refine⟨Lib.ctz 64 x,m,he,?_,?_,hw⟩
 ·unfold Lib.ctz;rw[if_neg hx0];exact h2
 ·unfold Lib.ctz;rw[if_neg hx0];exact h1
end Go.Proofs
namespace Go.Proofs.YtkdndfbfmchcpaaGreatDoor
open Go.RowKit
theorem Qj {S v m:Nat} (h:2 ^ v=2 ^ S*(2*m+1)):S=v:=by
 rcases Nat.lt_trichotomy S v with g | g | g
 ·obtain⟨d,rfl⟩:∃ d,v=S+(d+1):=⟨v-S-1,by omega⟩
  rw[Nat.pow_add] at h;have:=Nat.eq_of_mul_eq_mul_left (Nat.pow_pos (by decide)) h;rw[Nat.pow_succ] at this;omega
 ·exact g
 ·obtain⟨d,rfl⟩:∃ d,S=v+(d+1):=⟨S-v-1,by omega⟩
  rw[Nat.pow_add,Nat.mul_assoc] at h;have h2:2 ^ v*1=2 ^ v*(2 ^ (d+1)*(2*m+1)):=by rw[Nat.mul_one];exact h
  have:=Nat.eq_of_mul_eq_mul_left (Nat.pow_pos (by decide)) h2;have h3:2 ^ (d+1)*(2*m+1) % 2=1:=by rw[<- this]
  rw[Nat.pow_succ,Nat.mul_right_comm,Nat.mul_mod_left] at h3;omega
theorem aCy (n v cap:Nat) (a:Option Addr) (w:World) (hv:v<=12) (hn:n=2 ^ v) (hT:TabAt 1 Lib.deBruijn64tab w) :
  Calls Tryz.prog 145 #[.slice a n cap] w fun e w'=>e=.returned (.int .i64 (v:Int))/\w'=w:=by
 have h1:=aCx hv;have h0:0<2 ^ v:=Nat.pow_pos (by decide)
 have HZ:Hid (Calls Tryz.prog 69 #[.int .u64 (n:Int)] w fun e w'=>e=.returned (.int .i64 (v:Int))/\w'=w):=by refine (tz_any n (by omega) (by omega) w hT).mono ?_;rintro e w' ⟨S,m,rfl,_,h,hw⟩;rw[hn] at h;rw[Qj h];exact⟨rfl,hw⟩
 have hn2:n<=4096:=by omega
 clear hn hT h1 h0;go_enter Tryz.func145,Tryz.ntmps145;go_wp2_with fail;refine HZ.out.mono ?_;rintro e w1 ⟨rfl,rfl⟩;go_wp2_with fail;go_ret;exact⟨rfl,rfl⟩
theorem aCz (f:Nat->Int) (n:Nat):Sum.prz (fun k=>f (n-1-k)) n=Sum.prz f n:=by
 induction n generalizing f with
 | zero=>rfl
 | succ n ih =>
  rw[Ok f n,<- ih (fun k=>f (k+1))];rw[Sum.prz,show n+1-1-n=0 from by omega,Int.mul_comm]
  congr 1
  exact Sum.prz_same (fun k hk=>by rw[show n+1-1-k=n-1-k+1 from by omega])
def wgf (at':Nat->Int) (v i t:Nat):Int:=if (i / 2 ^ (v-1-t)) % 2=0 then 1-at' t else at' t
theorem Gl (at':Nat->Int) (v i:Nat):Sum.prz (wgf at' v i) v=Sum.wgt at' v i:=by
 rw[<- aCz];unfold Sum.wgt;refine Sum.prz_same (fun k hk=>?_);unfold wgf;rw[show v-1-(v-1-k)=k from by omega]
theorem Ig (n v:Nat) (w:World) (hv:v<=6) (hn:n=2 ^ v) (hT:TabAt 1 Lib.deBruijn64tab w) :
  Calls Tryz.prog 58 #[.int .i64 (n:Int)] w fun e w'=>e=.returned (.int .i64 (v:Int))/\w'=w:=by
 have h1:=Dn hv;have h0:0<2 ^ v:=Nat.pow_pos (by decide)
 have HZ:Hid (Calls Tryz.prog 69 #[.int .u64 (n:Int)] w fun e w'=>e=.returned (.int .i64 (v:Int))/\w'=w):=by refine (tz_any n (by omega) (by omega) w hT).mono ?_;rintro e w' ⟨S,m,rfl,_,h,hw⟩;rw[hn] at h;rw[Qj h];exact⟨rfl,hw⟩
 have hn2:n<=64:=by omega
 clear hn hT h1 h0;go_enter Tryz.func58,Tryz.ntmps58;go_wp2_with fail;refine HZ.out.mono ?_;rintro e w1 ⟨rfl,rfl⟩;go_wp2_with fail;go_ret;exact⟨rfl,rfl⟩
theorem Dw (p b:Nat) (y z:Value) (kind x1 x2:Int) (w:World) (h3:3<=p) (hm:p<=2147483647) (hp:w.cell? ⟨b,0,none⟩=some (.int .i64 p)) (h11:-9223372036854775808<=x1) (h12:x1<=9223372036854775807) (h21:-9223372036854775808<=x2) (h22:x2<=9223372036854775807) :
  Calls Tryz.prog 106 #[.agg #[.pointer (some ⟨b,0,none⟩),y,z],.int .i64 kind,.int .i64 x1,.int .i64 x2] w fun e w'=>e=.returned (.int .i64 (jnz p kind x1 x2))/\Below w.heap.size w w':=by
 obtain⟨W0,hW0⟩:=exE (w.alloc (.cells #[.pointer (some ⟨b,0,none⟩),y,z] 84));obtain⟨hb0,hs0,hz0⟩:=qV hW0;have hp0:=(hb0.cell (p:=⟨b,0,none⟩) (qK hp)).trans hp;have HA:=hid (yV p b x1 x2 W0 h3 hm hp0 h11 h12 h21 h22);have HM:=hid (kK p b x1 x2 W0 h3 hm hp0 h11 h12 h21 h22);have HB0:=hid hb0;clear hb0 hs0 hz0 hp hp0;by_cases hk:kind=0
 ·have hk2:(kind==0)=true:=by rw[hk];rfl
  have HJ:Hid (jnz p kind x1 x2=(x1+x2) % (p:Int)):=by unfold Hid jnz;rw[if_pos hk]
  generalize jnz p kind x1 x2=J at *;generalize (x1+x2) % (p:Int)=E at *;clear hk HM;go_enter Tryz.func106,Tryz.ntmps106;go_wp2_with fail;rw[<- hW0];clear hW0;refine HA.out.mono ?_;rintro e w1 ⟨rfl,hw⟩;have hw1:=hw.symm;subst hw1;clear hw;go_wp2_with fail;go_ret;exact⟨by rw[HJ.out];rfl,HB0.out⟩
 ·have hk2:(kind==0)=false:=by rw[beq_eq_false_iff_ne];exact hk
  have HJ:Hid (jnz p kind x1 x2=x1*x2 % (p:Int)):=by unfold Hid jnz;rw[if_neg hk]
  generalize jnz p kind x1 x2=J at *;generalize x1*x2 % (p:Int)=E at *;clear hk HA;go_enter Tryz.func106,Tryz.ntmps106;go_wp2_with fail;rw[<- hW0];clear hW0;refine HM.out.mono ?_;rintro e w1 ⟨rfl,hw⟩;have hw1:=hw.symm;subst hw1;clear hw;go_wp2_with fail;go_ret;exact⟨by rw[HJ.out];rfl,HB0.out⟩
theorem aEk (i m:Nat):(bits BinOp.and IntKind.i64 ((i:Int) / 2 ^ m) 1==0)=decide ((i / 2 ^ m) % 2=0):=by
 rw[Fi 1 _ (by omega) 1 rfl];have e:(i:Int) / 2 ^ m=((i / 2 ^ m:Nat):Int):=by rw[Int.natCast_ediv];simp
 rw[e];generalize i / 2 ^ m=X;rw[Bool.eq_iff_iff,beq_iff_eq,decide_eq_true_eq];omega
theorem Zl {p:Nat} (f:Nat->Int) (k:Nat) (r:Int) (h:(p:Int)∣r-f k):(Sum.prz f k % (p:Int))*r % (p:Int)=Sum.prz f (k+1) % (p:Int):=by
 refine jK ?_;have h1:(p:Int)∣Sum.prz f k % (p:Int)-Sum.prz f k:=Pol.emod_dvd p _;exact Sum.dvd_mul_sub h1 h
theorem Gm (p b cap:Nat) (y z:Value) (a:Option Addr) (zs:List Int) (w:World) (h3:3<=p) (hm:p<=2147483647) (hp:w.cell? ⟨b,0,none⟩=some (.int .i64 p)) (hn:zs.length<=281474976710656) (hf:Fits zs) (hr:RowB w.heap.size w a zs) :
  Calls Tryz.prog 141 #[.agg #[.pointer (some ⟨b,0,none⟩),y,z],.slice a zs.length cap] w fun e w'=>e=.returned (.int .i64 (Sum.prz (zat zs) zs.length % (p:Int)))/\Below w.heap.size w w':=by
 obtain⟨W0,hW0⟩:=exE (w.alloc (.cells #[.pointer (some ⟨b,0,none⟩),y,z] 84));obtain⟨hb0,hs0,hz0⟩:=qV hW0;have hp0:=(hb0.cell (p:=⟨b,0,none⟩) (qK hp)).trans hp;obtain⟨G,hG⟩:=exE (w.heap.size);have HGE:=hid hG;rw[<- hG] at hs0;have c0:=clA 0 hs0 rfl;have HM:Hid (∀ x y:Int,-9223372036854775808<=x->x<=9223372036854775807->-9223372036854775808<=y->y<=9223372036854775807->Calls Tryz.prog 78 #[.pointer (some ⟨b,0,none⟩),.int .i64 x,.int .i64 y] W0 fun e w'=>e=.returned (.int .i64 (x*y % (p:Int)))/\w'=W0):=fun x y h1 h2 h4 h5=>kK p b x y W0 h3 hm hp0 h1 h2 h4 h5;have HB0:=hid hb0;have HRO:=hid ((hr.below hb0).mono hb0.size);have HF:=hid hf;have HST:Hid (∀ k r,(p:Int)∣r-zat zs k->(Sum.prz (zat zs) k % (p:Int))*r % (p:Int)=Sum.prz (zat zs) (k+1) % (p:Int)):=fun k r h=>Zl _ _ _ h;have HZ:Hid (∀ k,0<=Sum.prz (zat zs) k % (p:Int)/\Sum.prz (zat zs) k % (p:Int)<p):=fun k=>qQ _ p h3;have HO:Hid (Sum.prz (zat zs) 0 % (p:Int)=1):=by unfold Hid;rw[Sum.prz];exact Int.emod_eq_of_lt (by omega) (by omega)
 obtain⟨P,hP⟩:∃ P:Nat->Int,P=fun k=>Sum.prz (zat zs) k % (p:Int):=⟨_,rfl⟩
 have HST2:Hid (∀ k r,(p:Int)∣r-zat zs k->P k*r % (p:Int)=P (k+1)):=fun k r h=>by rw[hP];exact HST.out k r h
 have HZ2:Hid (∀ k,0<=P k/\P k<p):=fun k=>by rw[hP];exact HZ.out k
 have HO2:Hid (P 0=1):=by unfold Hid;rw[hP];exact HO.out
 obtain⟨n,hnn⟩:=exE (zs.length);have HN:=hid hnn;rw[show Sum.prz (zat zs) zs.length % (p:Int)=P n from by rw[hP,hnn]];rw[<- hnn] at hn ⊢;clear hb0 hs0 hz0 hp hp0 hr hf HST HZ HO hP hnn hG;go_enter Tryz.func141,Tryz.ntmps141;go_wp2_with fail;rw[<- HGE.out,<- hW0];clear hW0;go_loop [5,7,10] (fun ov _ iv=>∃ k:Nat,k<=n/\iv=.int .i64 (k:Int)/\∃ x:Int,ov=.int .i64 x/\Hid (x=P k)) (fun _ _ iv=>n-(intOf iv).toNat)
 case atStart=>exact⟨0,by omega,rfl,1,rfl,HO2.out.symm⟩
 case round =>
  obtain⟨k,hk,rfl,x,rfl,hx⟩:=hrel;by_cases hlt:k<n
  ·have hlt2:(k:Int)<(n:Int):=by omega
   have hks:IntKind.i64.wrap ((k:Int)+1)=(k:Int)+1:=by rw[IntKind.wrap_i64];omega
   obtain⟨b0,o0,rfl,hb0,hx0⟩:=HRO.out k (by rw[<- HN.out];exact hlt);obtain⟨f1,f2⟩:=HF.out.all k;have hz:=HZ2.out k;rw[<- hx.out] at hz;have HMU:=hid (HM.out x (zat zs k) (by omega) (by omega) f1 f2);have HNX:Hid (x*zat zs k % (p:Int)=P (k+1)):=by unfold Hid;rw[hx.out];exact HST2.out k _ (by simp)
   generalize zat zs k=r at *;generalize x*r % (p:Int)=E at *;clear hx f1 f2 hz;go_wp2_with fail;refine HMU.out.mono ?_;rintro e w1 ⟨rfl,hw⟩;have hw1:=hw.symm;subst hw1;clear hw;go_wp2_with fail
   go_round
   case rel=>exact⟨k+1,by omega,by go_num,E,rfl,HNX.out⟩
   case measure=>simp[intOf];omega
  ·obtain rfl:k=n:=by omega
   have hlt2:¬ (k:Int)<(k:Int):=by omega
   go_wp2_with fail;go_ret;exact⟨by rw[<- hx.out];rfl,HB0.out⟩
theorem Bc (p b cap i:Nat) (y z:Value) (a:Option Addr) (at':List Int) (w:World) (h3:3<=p) (hm:p<=2147483647) (hp:w.cell? ⟨b,0,none⟩=some (.int .i64 p)) (hv:at'.length<=60) (hf:Fits at') (hr:RowB w.heap.size w a at') :
  Calls Tryz.prog 142 #[.agg #[.pointer (some ⟨b,0,none⟩),y,z],.int .i64 (i:Int),.slice a at'.length cap] w fun e w'=>e=.returned (.int .i64 (Sum.wgt (zat at') at'.length i % (p:Int)))/\Below w.heap.size w w':=by
 obtain⟨W0,hW0⟩:=exE (w.alloc (.cells #[.pointer (some ⟨b,0,none⟩),y,z] 84));obtain⟨hb0,hs0,hz0⟩:=qV hW0;have hp0:=(hb0.cell (p:=⟨b,0,none⟩) (qK hp)).trans hp;obtain⟨G,hG⟩:=exE (w.heap.size);have HGE:=hid hG;rw[<- hG] at hs0;have c0:=clA 0 hs0 rfl;have HM:Hid (∀ x y:Int,-9223372036854775808<=x->x<=9223372036854775807->-9223372036854775808<=y->y<=9223372036854775807->Calls Tryz.prog 78 #[.pointer (some ⟨b,0,none⟩),.int .i64 x,.int .i64 y] W0 fun e w'=>e=.returned (.int .i64 (x*y % (p:Int)))/\w'=W0):=fun x y h1 h2 h4 h5=>kK p b x y W0 h3 hm hp0 h1 h2 h4 h5;have HSU:Hid (∀ x y:Int,-9223372036854775808<=x->x<=9223372036854775807->-9223372036854775808<=y->y<=9223372036854775807->Calls Tryz.prog 109 #[.pointer (some ⟨b,0,none⟩),.int .i64 x,.int .i64 y] W0 fun e w'=>e=.returned (.int .i64 ((x-y) % (p:Int)))/\w'=W0):=fun x y h1 h2 h4 h5=>Ej p b x y W0 h3 hm hp0 h1 h2 h4 h5;have HB0:=hid hb0;have HRO:=hid ((hr.below hb0).mono hb0.size);have HF:=hid hf;obtain⟨n,hnn⟩:=exE (at'.length);obtain⟨P,hP⟩:∃ P:Nat->Int,P=fun k=>Sum.prz (wgf (zat at') n i) k % (p:Int):=⟨_,rfl⟩
 have HST2:Hid (∀ k r,(p:Int)∣r-wgf (zat at') n i k->P k*r % (p:Int)=P (k+1)):=fun k r h=>by rw[hP];exact Zl _ _ _ h
 have HZ2:Hid (∀ k,0<=P k/\P k<p):=fun k=>by rw[hP];exact qQ _ p h3
 have HO2:Hid (P 0=1):=by unfold Hid;rw[hP];show Sum.prz _ 0 % _=1;rw[Sum.prz];exact Int.emod_eq_of_lt (by omega) (by omega)
 have HN:=hid hnn;rw[show Sum.wgt (zat at') at'.length i % (p:Int)=P n from by rw[hP,<- hnn];show _=Sum.prz _ n % _;rw[Gl]];rw[<- hnn] at hv ⊢;clear hb0 hs0 hz0 hp hp0 hr hf hP hnn hG;go_enter Tryz.func142,Tryz.ntmps142;go_wp2_with fail;rw[<- HGE.out,<- hW0];clear hW0;go_loop [7,8,9,12] (fun ov _ _ iv=>∃ k:Nat,k<=n/\iv=.int .i64 (k:Int)/\∃ x:Int,ov=.int .i64 x/\Hid (x=P k)) (fun _ _ _ iv=>n-(intOf iv).toNat)
 case atStart=>exact⟨0,by omega,rfl,1,rfl,HO2.out.symm⟩
 case round =>
  obtain⟨k,hk,rfl,x,rfl,hx⟩:=hrel;by_cases hlt:k<n
  ·have hlt2:(k:Int)<(n:Int):=by omega
   have hks:IntKind.i64.wrap ((k:Int)+1)=(k:Int)+1:=by rw[IntKind.wrap_i64];omega
   obtain⟨b0,o0,rfl,hb0,hx0⟩:=HRO.out k (by rw[<- HN.out];exact hlt);obtain⟨f1,f2⟩:=HF.out.all k;have hz:=HZ2.out k;rw[<- hx.out] at hz;have hbt:=aEk i (n-1-k);by_cases hb:(i / 2 ^ (n-1-k)) % 2=0
   ·rw[decide_eq_true hb] at hbt;have HSX:=hid (HSU.out 1 (zat at' k) (by omega) (by omega) f1 f2);obtain⟨t1,t2⟩:=qQ (1-zat at' k) p h3;have HMU:=hid (HM.out x ((1-zat at' k) % (p:Int)) (by omega) (by omega) (by omega) (by omega))
    have HNX:Hid (x*((1-zat at' k) % (p:Int)) % (p:Int)=P (k+1)):=by unfold Hid;rw[hx.out];refine HST2.out k _ ?_;unfold wgf;rw[if_pos hb];exact Pol.emod_dvd p _
    generalize (1-zat at' k) % (p:Int)=s at *;generalize zat at' k=r at *;generalize x*s % (p:Int)=E at *;clear hx f1 f2 hz hb t1 t2;go_wp2_with fail;refine HSX.out.mono ?_;rintro e w1 ⟨rfl,hw⟩;have hw1:=hw.symm;subst hw1;clear hw;go_wp2_with fail;refine HMU.out.mono ?_;rintro e w1 ⟨rfl,hw⟩;have hw1:=hw.symm;subst hw1;clear hw;go_wp2_with fail
    go_round
    case rel=>exact⟨k+1,by omega,by go_num,E,rfl,HNX.out⟩
    case measure=>simp[intOf];omega
   ·rw[decide_eq_false hb] at hbt;have HMU:=hid (HM.out x (zat at' k) (by omega) (by omega) f1 f2)
    have HNX:Hid (x*zat at' k % (p:Int)=P (k+1)):=by unfold Hid;rw[hx.out];refine HST2.out k _ ?_;unfold wgf;rw[if_neg hb];simp
    generalize zat at' k=r at *;generalize x*r % (p:Int)=E at *;clear hx f1 f2 hz hb;go_wp2_with fail;refine HMU.out.mono ?_;rintro e w1 ⟨rfl,hw⟩;have hw1:=hw.symm;subst hw1;clear hw;go_wp2_with fail
    go_round
    case rel=>exact⟨k+1,by omega,by go_num,E,rfl,HNX.out⟩
    case measure=>simp[intOf];omega
  ·obtain rfl:k=n:=by omega
   have hlt2:¬ (k:Int)<(k:Int):=by omega
   go_wp2_with fail;go_ret;exact⟨by rw[<- hx.out];rfl,HB0.out⟩
def fxs (p:Nat) (t:List Int) (fs:Nat->Int):Nat->List Int
 | 0=>t
 | k+1=>Ie p (fxs p t fs k) (fs k)
theorem El {p n:Nat} {t:List Int} (fs:Nat->Int) (h:t.length=2 ^ n):∀ k,k<=n->(fxs p t fs k).length=2 ^ (n-k)
 | 0,_=>h
 | k+1,hk=>by rw[fxs,Lk,El fs h k (by omega),show n-k=n-(k+1)+1 from by omega,Nat.pow_succ];omega
theorem Gn {p:Nat} (h3:3<=p) (hm:p<=2147483647) {t:List Int} (fs:Nat->Int) (h:Fits t):∀ k,Fits (fxs p t fs k)
 | 0=>h
 | _+1=>aAL h3 hm _ _
theorem Gq {p:Nat} {t:List Int} {fs gs:Nat->Int}:∀ k,(∀ j,j<k->fs j=gs j)->fxs p t fs k=fxs p t gs k
 | 0,_=>rfl
 | k+1,h=>by rw[fxs,fxs,Gq k (fun j hj=>h j (by omega)),h k (by omega)]
theorem Qk {p n:Nat} {t:List Int} (at':Nat->Int) (h:t.length=2 ^ n):∀ k,k<=n->(p:Int)∣Sum.ext (zat t) at' n-Sum.ext (zat (fxs p t at' k)) (fun j=>at' (k+j)) (n-k)
 | 0,_=>by
  have:Sum.ext (zat (fxs p t at' 0)) (fun j=>at' (0+j)) (n-0)=Sum.ext (zat t) at' n:=Sum.ext_same (fun i _=>rfl) (fun j _=>by rw[Nat.zero_add]);rw[this,Int.sub_self];exact Int.dvd_zero _
 | i+1,hi=>by
  have ih:=Qk (p:=p) at' h i (by omega);obtain⟨m,hm⟩:∃ m,n-(i+1)=m:=⟨_,rfl⟩
  rw[show n-i=m+1 from by omega,Sum.ext_succ] at ih;rw[hm];have hl:(fxs p t at' i).length=2 ^ (m+1):=by rw[El at' h i (by omega)];congr 1;omega
  have hh:2 ^ (m+1) / 2=2 ^ m:=by rw[Nat.pow_succ];omega
  have e:(p:Int)∣Sum.ext (fun x=>zat (fxs p t at' i) x*(1-at' (i+0))+zat (fxs p t at' i) (x+2 ^ m)*at' (i+0)) (fun j=>at' (i+(j+1))) m-Sum.ext (zat (fxs p t at' (i+1))) (fun j=>at' (i+1+j)) m:=by
   refine Sum.ext_congr (fun x hx=>?_) (fun j _=>?_)
   ·rw[fxs,Qd (by rw[hl,hh];exact hx),hl,hh,Nat.add_zero];have:=Int.dvd_neg.2 (Pol.emod_dvd p (zat (fxs p t at' i) x*(1-at' i)+zat (fxs p t at' i) (x+2 ^ m)*at' i))
    rwa [Int.neg_sub] at this
   ·rw[show i+(j+1)=i+1+j from by omega,Int.sub_self];exact Int.dvd_zero _
  have:=Int.dvd_add ih e
  rwa [show ∀ a b c:Int,a-b+(b-c)=a-c from fun a b c=>by omega] at this
def Cy (n i k:Nat):Int:=((i / 2 ^ (n-1-k) % 2:Nat):Int)
theorem Td {n k A j:Nat} (_hk:k<=n) (hj:j<n-k):Cy n A (k+j)=Cy (n-k) (A % 2 ^ (n-k)) j:=by
 unfold Cy;have e:n-1-(k+j)=n-k-1-j:=by omega
 rw[e];obtain⟨m,hm⟩:=exE (n-k);rw[<- hm] at hj ⊢;obtain⟨d,hd⟩:=exE (m-1-j);rw[<- hd];have h2:2 ^ m=2 ^ d*2 ^ (m-d):=by rw[<- Nat.pow_add];congr 1;omega
 have h3:A % 2 ^ m / 2 ^ d=A / 2 ^ d % 2 ^ (m-d):=by rw[h2,Nat.mod_mul_right_div_self]
 rw[h3];have h4:2 ^ (m-d)=2*2 ^ (m-d-1):=by rw[show m-d=m-d-1+1 from by omega,Nat.pow_succ,Nat.mul_comm];rfl
 rw[h4,Nat.mod_mul_right_mod]
theorem aC0 (t:Nat->Int) (v j:Nat) (hj:j<2 ^ v):Sum.ext t (Cy v j) v=t j:=by
 induction v generalizing t j with
 | zero =>
  rw[Sum.ext_zero]
  congr 1
  simp at hj;omega
 | succ v ih =>
  rw[Sum.ext_succ]
  have hb:∀ k,k<v->Cy (v+1) j (k+1)=Cy v (j % 2 ^ v) k:=fun k hk=>by have:=Td (n:=v+1) (k:=1) (A:=j) (j:=k) (by omega) (by omega);rw[Nat.add_comm 1 k] at this;exact this
  by_cases h:j<2 ^ v
  ·have h0:Cy (v+1) j 0=0:=by
    unfold Cy;rw[show v+1-1-0=v from by omega,Nat.div_eq_of_lt h];rfl
   rw[Sum.ext_same (u:=t) (bt:=Cy v j) (fun i _=>by rw[h0];simp) (fun k hk=>by rw[hb k hk,Nat.mod_eq_of_lt h])];exact ih t j h
  ·have h2:j<2 ^ v+2 ^ v:=by rw[Nat.pow_succ] at hj;omega
   have hd:j / 2 ^ v=1:=by rw[Nat.div_eq_iff (Nat.two_pow_pos v)];omega
   have h0:Cy (v+1) j 0=1:=by unfold Cy;rw[show v+1-1-0=v from by omega,hd];rfl
   have hm:j % 2 ^ v=j-2 ^ v:=by rw[Nat.mod_eq_sub_mod (by omega),Nat.mod_eq_of_lt (by omega)]
   rw[Sum.ext_same (u:=fun i=>t (i+2 ^ v)) (bt:=Cy v (j-2 ^ v)) (fun i _=>by rw[h0];simp) (fun k hk=>by rw[hb k hk,hm])];rw[ih (fun i=>t (i+2 ^ v)) (j-2 ^ v) (by omega)]
   congr 1
   omega
theorem Zm {p n k A:Nat} {t:List Int} {fs at':Nat->Int} (h:t.length=2 ^ n) (hk:k<=n) (h1:∀ j,j<k->at' j=fs j) (h2:∀ j,k<=j->j<n->at' j=Cy n A j):(p:Int)∣Sum.ext (zat t) at' n-zat (fxs p t fs k) (A % 2 ^ (n-k)):=by
 have:=Qk (p:=p) at' h k hk;rw[Gq k h1,Sum.ext_same (u:=zat (fxs p t fs k)) (bt:=Cy (n-k) (A % 2 ^ (n-k))) (fun i _=>rfl) (fun j hj=>by rw[h2 (k+j) (by omega) (by omega),Td hk hj])] at this;rw[aC0 _ _ _ (Nat.mod_lt _ (Nat.two_pow_pos _))] at this;exact this
theorem Zn {n k A:Nat} (fs:Nat->Int) (hk:k<=n):Sum.wgt fs k (A / 2 ^ (n-k))=Sum.prz (fun j=>if Cy n A j=0 then 1-fs j else fs j) k:=by
 rw[<- Gl];refine Sum.prz_same (fun j hj=>?_);unfold wgf Cy;rw[Nat.div_div_eq_div_mul,<- Nat.pow_add,show n-k+(k-1-j)=n-1-j from by omega];generalize A / 2 ^ (n-1-j) % 2=X;by_cases e:X=0
 ·rw[if_pos e,if_pos (by omega)]
 ·rw[if_neg e,if_neg (by omega)]
def ptt (p:Nat) (gs:List GatZ) (below:List Int) (n:Nat) (z xs:List Int) (i:Nat):Int :=
 Sum.wgt (zat z) z.length i*Sum.wgt (zat xs) (min xs.length n) ((gat gs i).a.toNat / 2 ^ (n-min xs.length n))*Sum.wgt (fun j=>zat xs (min xs.length n+j)) (xs.length-min xs.length n) ((gat gs i).b.toNat / 2 ^ (n-(xs.length-min xs.length n))) *
  jnz p (gat gs i).kind (zat (fxs p below (zat xs) (min xs.length n)) ((gat gs i).a.toNat % 2 ^ (n-min xs.length n))) (zat (fxs p below (fun j=>zat xs (min xs.length n+j)) (xs.length-min xs.length n)) ((gat gs i).b.toNat % 2 ^ (n-(xs.length-min xs.length n))))
def ptz (p:Nat) (gs:List GatZ) (below:List Int) (n:Nat) (z xs:List Int):Int:=Dom.sm (ptt p gs below n z xs) gs.length % (p:Int)
theorem aAN (f:Nat->Int) (a b:Nat):Sum.prz f (a+b)=Sum.prz f a*Sum.prz (fun j=>f (a+j)) b:=by
 induction b with
 | zero=>simp[Sum.prz]
 | succ b ih=>rw[<- Nat.add_assoc,Sum.prz,Sum.prz,ih,Int.mul_assoc]
theorem Ih {p:Nat} {kind x y x' y':Int} (hx:(p:Int)∣x-x') (hy:(p:Int)∣y-y'):jnz p kind x y=jnz p kind x' y':=by
 unfold jnz;split
 ·exact jK (Sum.dvd_add_sub hx hy)
 ·exact jK (Sum.dvd_mul_sub hx hy)
def abz (n A B k:Nat):Int:=if k<n then Cy n A k else Cy n B (k-n)
def Cz (n A B:Nat) (xs:List Int) (k:Nat):Int:=if abz n A B k=0 then 1-zat xs k else zat xs k
theorem Te {n A B:Nat} {xs:List Int} (h:xs.length<=2*n):Sum.prz (Cz n A B xs) xs.length=Sum.wgt (zat xs) (min xs.length n) (A / 2 ^ (n-min xs.length n))*Sum.wgt (fun j=>zat xs (min xs.length n+j)) (xs.length-min xs.length n) (B / 2 ^ (n-(xs.length-min xs.length n))):=by
 obtain⟨m,hm⟩:=exE (min xs.length n);rw[<- hm];have e:xs.length=m+(xs.length-m):=by omega
 rw[Zn _ (show m<=n by omega),Zn _ (show xs.length-m<=n by omega)]
 conv=>lhs;rw[e]
 rw[aAN]
 congr 1
 ·refine Sum.prz_same (fun k hk=>?_);unfold Cz abz;rw[if_pos (show k<n by omega)]
 ·refine Sum.prz_same (fun k hk=>?_);have hmn:m=n:=by omega
  unfold Cz abz;rw[if_neg (show ¬ m+k<n by omega),show m+k-n=k from by omega]
def xpt (n A B:Nat) (xs:List Int) (k:Nat):Int:=if k<xs.length then zat xs k else abz n A B k
theorem aFQ {p n A B:Nat} {t xs:List Int} (ht:t.length=2 ^ n):(p:Int)∣Sum.ext (zat t) (xpt n A B xs) n % (p:Int)-zat (fxs p t (zat xs) (min xs.length n)) (A % 2 ^ (n-min xs.length n)):=by
 have h:=Zm (p:=p) (n:=n) (k:=min xs.length n) (A:=A) (t:=t) (fs:=zat xs) (at':=xpt n A B xs) ht (by omega) (fun j hj=>by unfold xpt;rw[if_pos (by omega)]) (fun j h1 h2=>by unfold xpt abz;rw[if_neg (by omega),if_pos h2]);have h2:=Int.dvd_add (Pol.emod_dvd p (Sum.ext (zat t) (xpt n A B xs) n)) h;generalize Sum.ext (zat t) (xpt n A B xs) n % (p:Int)=a at *;generalize Sum.ext (zat t) (xpt n A B xs) n=b at *;generalize zat (fxs p t (zat xs) (min xs.length n)) (A % 2 ^ (n-min xs.length n))=c at *
 rwa [show a-b+(b-c)=a-c from by omega] at h2
theorem aFR {p n A B:Nat} {t xs:List Int} (ht:t.length=2 ^ n) (hl:xs.length<=2*n):(p:Int)∣Sum.ext (zat t) (fun j=>xpt n A B xs (n+j)) n % (p:Int)-zat (fxs p t (fun j=>zat xs (min xs.length n+j)) (xs.length-min xs.length n)) (B % 2 ^ (n-(xs.length-min xs.length n))):=by
 have h:=Zm (p:=p) (n:=n) (k:=xs.length-min xs.length n) (A:=B) (t:=t) (fs:=fun j=>zat xs (min xs.length n+j)) (at':=fun j=>xpt n A B xs (n+j)) ht (by omega) (fun j hj=>by
  have e:min xs.length n=n:=by omega
  show xpt n A B xs (n+j)=_;unfold xpt
  rw[if_pos (by omega),e]) (fun j h1 h2=>by
  show xpt n A B xs (n+j)=_;unfold xpt abz
  rw[if_neg (by omega),if_neg (by omega),Nat.add_sub_cancel_left])
 have h2:=Int.dvd_add (Pol.emod_dvd p (Sum.ext (zat t) (fun j=>xpt n A B xs (n+j)) n)) h;generalize Sum.ext (zat t) (fun j=>xpt n A B xs (n+j)) n % (p:Int)=a at *;generalize Sum.ext (zat t) (fun j=>xpt n A B xs (n+j)) n=b at *;generalize zat (fxs p t (fun j=>zat xs (min xs.length n+j)) (xs.length-min xs.length n)) (B % 2 ^ (n-(xs.length-min xs.length n)))=c at *
 rwa [show a-b+(b-c)=a-c from by omega] at h2
theorem Lp {p n i:Nat} {gs:List GatZ} {t z xs:List Int} (ht:t.length=2 ^ n) (hl:xs.length<=2*n):ptt p gs t n z xs i=Sum.wgt (zat z) z.length i*Sum.prz (Cz n (gat gs i).a.toNat (gat gs i).b.toNat xs) xs.length*jnz p (gat gs i).kind (Sum.ext (zat t) (xpt n (gat gs i).a.toNat (gat gs i).b.toNat xs) n) (Sum.ext (zat t) (fun j=>xpt n (gat gs i).a.toNat (gat gs i).b.toNat xs (n+j)) n):=by
 have e1:∀ x y:Int,jnz p (gat gs i).kind (x % (p:Int)) (y % (p:Int))=jnz p (gat gs i).kind x y:=fun x y=>Ih (Pol.emod_dvd p x) (Pol.emod_dvd p y);rw[<- e1,Ih (aFQ (A:=(gat gs i).a.toNat) (B:=(gat gs i).b.toNat) (xs:=xs) ht) (aFR (A:=(gat gs i).a.toNat) (B:=(gat gs i).b.toNat) (xs:=xs) ht hl),Te hl];unfold ptt;rw[<- Int.mul_assoc]
theorem Da {xs:List Int} {b:Int} {j:Nat} (h:j<xs.length):zat (xs++[b]) j=zat xs j:=by simp[zat,List.getElem?_append_left h]
theorem Bu (xs:List Int) (b:Int):zat (xs++[b]) xs.length=b:=by simp[zat]
theorem Wx (n A B k:Nat):abz n A B k=0∨abz n A B k=1:=by
 unfold abz Cy;split <;> omega
theorem Zo {p n i:Nat} {gs:List GatZ} {t z xs:List Int} {b:Int} (ht:t.length=2 ^ n) (hl:xs.length+1<=2*n) (hb:abz n (gat gs i).a.toNat (gat gs i).b.toNat xs.length=b):ptt p gs t n z (xs++[b]) i=ptt p gs t n z xs i:=by
 rw[Lp ht (by rw[List.length_append];exact hl),Lp ht (by omega)];have e0:(xs++[b]).length=xs.length+1:=by simp
 rw[e0,Sum.prz];have e1:Sum.prz (Cz n (gat gs i).a.toNat (gat gs i).b.toNat (xs++[b])) xs.length=Sum.prz (Cz n (gat gs i).a.toNat (gat gs i).b.toNat xs) xs.length:=Sum.prz_same (fun k hk=>by unfold Cz;rw[Da hk])
 have e2:Cz n (gat gs i).a.toNat (gat gs i).b.toNat (xs++[b]) xs.length=1:=by
  unfold Cz;rw[Bu,hb];rcases Wx n (gat gs i).a.toNat (gat gs i).b.toNat xs.length with h | h
  ·rw[hb] at h;rw[h];rfl
  ·rw[hb] at h;rw[h];rfl
 have e3:∀ j,xpt n (gat gs i).a.toNat (gat gs i).b.toNat (xs++[b]) j=xpt n (gat gs i).a.toNat (gat gs i).b.toNat xs j:=fun j=>by
  unfold xpt;rw[e0];by_cases h:j<xs.length
  ·rw[if_pos h,if_pos (by omega),Da h]
  ·rw[if_neg h];by_cases h2:j=xs.length
   ·subst h2;rw[if_pos (by omega),Bu,hb]
   ·rw[if_neg (by omega)]
 rw[e1,e2,Int.mul_one];rw[Sum.ext_same (u:=zat t) (bt:=xpt n (gat gs i).a.toNat (gat gs i).b.toNat xs) (fun _ _=>rfl) (fun j _=>e3 j),Sum.ext_same (u:=zat t) (bt:=fun j=>xpt n (gat gs i).a.toNat (gat gs i).b.toNat xs (n+j)) (fun _ _=>rfl) (fun j _=>e3 (n+j))]
theorem Ol {p n i:Nat} {gs:List GatZ} {t z xs:List Int} {b:Int} (ht:t.length=2 ^ n) (hl:xs.length+1<=2*n) (hb:abz n (gat gs i).a.toNat (gat gs i).b.toNat xs.length=1-b):ptt p gs t n z (xs++[b]) i=0:=by
 rw[Lp ht (by rw[List.length_append];exact hl)];have e0:(xs++[b]).length=xs.length+1:=by simp
 rw[e0,Sum.prz]
 have e2:Cz n (gat gs i).a.toNat (gat gs i).b.toNat (xs++[b]) xs.length=0:=by
  unfold Cz;rw[Bu,hb];rcases Wx n (gat gs i).a.toNat (gat gs i).b.toNat xs.length with h | h
  ·rw[hb] at h;rw[if_pos h];exact h
  ·rw[hb] at h;rw[if_neg (by omega)];omega
 rw[e2,Int.mul_zero,Int.mul_zero,Int.zero_mul]
theorem aEl {p n i:Nat} {gs:List GatZ} {t z xs:List Int} (ht:t.length=2 ^ n) (hl:xs.length+1<=2*n):ptt p gs t n z xs i=ptt p gs t n z (xs++[0]) i+ptt p gs t n z (xs++[1]) i:=by
 rcases Wx n (gat gs i).a.toNat (gat gs i).b.toNat xs.length with h | h
 ·rw[Zo ht hl h,Ol (b:=1) ht hl (by rw[h];rfl),Int.add_zero]
 ·rw[Zo (b:=1) ht hl h,Ol (b:=0) ht hl (by rw[h];rfl),Int.zero_add]
theorem Zp (f g:Nat->Int):∀ n,Dom.sm (fun i=>f i+g i) n=Dom.sm f n+Dom.sm g n
 | 0=>rfl
 | n+1=>by rw[Dom.sm,Dom.sm,Dom.sm,Zp f g n];omega
theorem aEm {p n:Nat} {gs:List GatZ} {t z xs:List Int} (ht:t.length=2 ^ n) (hl:xs.length+1<=2*n):ptz p gs t n z xs=(ptz p gs t n z (xs++[0])+ptz p gs t n z (xs++[1])) % (p:Int):=by
 unfold ptz;rw[<- Int.add_emod,<- Zp]
 congr 1
 exact Dom.sm_same (fun i _=>aEl ht hl)
theorem aEn {p n:Nat} {gs:List GatZ} {t z:List Int} (hg:gs.length=2 ^ z.length) (ho:∀ k,k<gs.length->(gat gs k).a.toNat<2 ^ n/\(gat gs k).b.toNat<2 ^ n):ptz p gs t n z []=Sum.ext (zat (gvl p t gs)) (zat z) z.length % (p:Int):=by
 unfold ptz Sum.ext;rw[<- hg]
 congr 1
 refine Dom.sm_same (fun i hi=>?_);unfold ptt gvl;obtain⟨h1,h2⟩:=ho i hi;have w0:∀ (f:Nat->Int) j,Sum.wgt f 0 j=1:=fun f j=>by simp[Sum.wgt,Sum.prz]
 simp only[List.length_nil,Nat.zero_min,Nat.sub_zero,w0,Int.mul_one,fxs];rw[Nat.mod_eq_of_lt h1,Nat.mod_eq_of_lt h2,kZ _ _ _ hi,Int.mul_comm]
theorem Tf (c:Int) (f:Pol.S) (x:Int):∀ n,Pol.ps (fun j=>c*f j) x n=c*Pol.ps f x n
 | 0=>by simp[Pol.ps]
 | n+1=>by rw[Pol.ps,Pol.ps,Tf c f x n,Int.mul_add,Int.mul_assoc]
def Tg (c:Nat->Int) (a b:Nat->Nat->Int) (d h:Nat):Pol.S:=fun j=>Dom.sm (fun i=>c i*Sum.strs (fun k=>a k i) (fun k=>b k i) d j) h
theorem Lq (c:Nat->Int) (a b:Nat->Nat->Int) (d:Nat) (x:Int):∀ h,Pol.ps (Tg c a b d h) x (d+1)=Dom.sm (fun i=>c i*Sum.prz (fun k=>a k i*(1-x)+b k i*x) d) h
 | 0=>by
  show Pol.ps Pol.zero x (d+1)=0;exact Dom.ps_zero _ _
 | h+1=>by have e:Tg c a b d (h+1)=Pol.add (Tg c a b d h) (fun j=>c h*Sum.strs (fun k=>a k h) (fun k=>b k h) d j):=funext fun j=>rfl;rw[e,Dom.ps_add,Lq c a b d x h,Tf,Sum.ps_strs];rfl
def jnx (kind x y:Int):Int:=if kind=0 then x+y else x*y
theorem aEo (p:Nat) (kind x y:Int):(p:Int)∣jnz p kind x y-jnx kind x y:=by
 unfold jnz jnx;split <;> exact Pol.emod_dvd p _
theorem aEp (kind x0 x1 y r:Int):jnx kind (x0*(1-r)+x1*r) y=jnx kind x0 y*(1-r)+jnx kind x1 y*r:=by
 unfold jnx;split <;> grind
theorem aC1 (T x y:Nat->Int) (v:Nat):∃ f:Pol.S,∀ t:Int,Sum.ext T (fun k=>x k+t*(y k-x k)) v=Pol.ps f t (v+1):=by
 refine⟨Tg T (fun k i=>if i / 2 ^ (v-1-k) % 2=0 then 1-x k else x k) (fun k i=>if i / 2 ^ (v-1-k) % 2=0 then 1-y k else y k) v (2 ^ v),fun t=>?_⟩;rw[Lq];unfold Sum.ext;refine Dom.sm_same (fun i _=>?_);rw[<- Gl]
 congr 1
 refine Sum.prz_same (fun k _=>?_);unfold wgf;split <;> grind
theorem Wy {p v:Nat} (hp:Num.Prime p) (T x y:Nat->Int) (f:Pol.S) (s:Nat->Int) (hu:∀ i j,i<j->j<v+1->¬ (p:Int)∣s j-s i) (hs:∀ i,i<v+1->(p:Int)∣Pol.ps f (s i) (v+1)-Sum.ext T (fun k=>x k+s i*(y k-x k)) v) (t:Int):(p:Int)∣Pol.ps f t (v+1)-Sum.ext T (fun k=>x k+t*(y k-x k)) v:=by
 obtain⟨g,hg⟩:=aC1 T x y v;rw[hg];exact Sum.agree hp (v+1) f g s hu (fun i hi=>by rw[<- hg];exact hs i hi) t
end Go.Proofs.YtkdndfbfmchcpaaGreatDoor
