
import Derived.Test.YtkdndfbfmchcpaaGreatDoorRows
import Derived.Test.YtkdndfbfmchcpaaGreatDoorPlain
import Derived.KernelRfl
import Derived.WalkKit
import Derived.WalkSpells
import Derived.WalkLawsBesides
import Derived.Shelf.Small.Bits
import Derived.Lib.BitFns
import Derived.Test.YtkdndfbfmchcpaaGreatDoorProg
import Derived.Deep.RegionWith
import Derived.WalkSmall
import Derived.Deep.QuietTactic
import Derived.BigQuiet
import Derived.Deep.OwnRows
import Derived.LaidEql
import Derived.Stop.Asserts
import Derived.RowKitTokens
set_option maxRecDepth 1000000
set_option maxHeartbeats 8000000
namespace Go.Proofs.YtkdndfbfmchcpaaGreatDoor
open Go.RowKit
theorem Tryz.infoInt:(Tryz.prog.info? 3).map (fun i=>(i.zero,i.size,i.bytes))=some (some (.int .i64 0),1,8):=by kernel_rfl
theorem hid {p:Prop} (h:p):Hid p:=h
theorem xJ {k:IntKind} {a b:Int} (h:a=b):Ending.returned (.int k a)=.returned (.int k b):=by rw[h]
theorem Ck {a b:Bool} (h:a=b):Ending.returned (.bool a)=.returned (.bool b):=by rw[h]
theorem Fo (n m:Int) (hm:0<m) (h:n.tmod m<0):n.tmod m+m=n % m:=by
 have e:=Int.tmod_eq_emod (a:=n) (b:=m);have h1:=Int.emod_nonneg n (b:=m) (by omega);split at e
 ·omega
 ·have:(m.natAbs:Int)=m:=by omega
  omega
theorem Fp (n m:Int) (hm:0<m) (h:¬ n.tmod m<0):n.tmod m=n % m:=by
 have e:=Int.tmod_eq_emod (a:=n) (b:=m);have h2:=Int.emod_lt_of_pos n hm;split at e
 ·omega
 ·have:(m.natAbs:Int)=m:=by omega
  omega
theorem Rv (n m:Int) (hm:0<m):-m<=n.tmod m/\n.tmod m<m:=by
 have h1:=Int.emod_nonneg n (b:=m) (by omega);have h2:=Int.emod_lt_of_pos n hm;by_cases h:n.tmod m<0
 ·have:=Fo n m hm h;omega
 ·have:=Fp n m hm h;omega
theorem Yt (n m:Int) (w:World) (hm:0<m) (hm2:m<=2147483647) (_hn:-9223372036854775808<=n) (_hn2:n<=9223372036854775807) :
  Calls Tryz.prog 51 #[.int .i64 n,.int .i64 m] w fun e w'=>e=.returned (.int .i64 (n % m))/\w'=w:=by
 by_cases h1:0<=n
 ·by_cases h2:n<m
  ·have he:Hid (n % m=n):=hid (Int.emod_eq_of_lt h1 h2);go_enter Tryz.func51,Tryz.ntmps51;go_wp2;go_ret;exact⟨xJ he.out.symm,rfl⟩
  ·have hb1:=Int.emod_nonneg n (b:=m) (by omega);go_enter Tryz.func51,Tryz.ntmps51;go_wp2;go_ret;exact⟨rfl,rfl⟩
 ·obtain⟨hb1,hb2⟩:=Rv n m hm;by_cases h2:n.tmod m<0
  ·have he:Hid (n.tmod m+m=n % m):=hid (Fo n m hm h2);have hs1:0<=n.tmod m+m:=by omega
   go_enter Tryz.func51,Tryz.ntmps51;go_wp2;go_ret;exact⟨xJ he.out,rfl⟩
  ·have he:Hid (n.tmod m=n % m):=hid (Fp n m hm h2);go_enter Tryz.func51,Tryz.ntmps51;go_wp2;go_ret;exact⟨xJ he.out,rfl⟩
theorem aFK (k n:Nat) (h:k*k<=n) (hn:n<=2147483647):k<=46340:=by
 rcases Nat.lt_or_ge 46340 k with g | g
 ·have:46341*46341<=k*k:=Nat.mul_le_mul g g;omega
 ·exact g
theorem Hy (n:Nat) (w:World) (h2:2<=n) (hm:n<=2147483647) :
  Calls Tryz.prog 93 #[.int .i64 n] w fun e w'=>∃ d:Nat,e=.returned (.int .i64 d)/\Num.Least n d/\w'=w:=by
 go_enter Tryz.func93,Tryz.ntmps93;go_wp2;go_loop [3] (fun i=>∃ k:Nat,2<=k/\k<=46341/\i=.int .i64 k/\∀ e,2<=e->e<k->¬ e∣n) (fun i=>46341-(intOf i).toNat)
 case atStart=>exact⟨2,by omega,by omega,rfl,fun e h g=>by omega⟩
 case round =>
  obtain⟨k,hk2,hk,rfl,hno⟩:=hrel;have HN:=hid hno;clear hno;have hsq:((k:Int)*k)=((k*k:Nat):Int):=by simp
  have hkk:k*k<=46341*46341:=Nat.mul_le_mul hk hk;have hq1:0<=(k:Int)*k:=by omega
  have hq2:(k:Int)*k<=2147488281:=by omega
  by_cases hle:k*k<=n
  ·have hk3:=aFK k n hle hm;have hle2:(k:Int)*k<=n:=by omega
   clear hsq hle hkk;by_cases hd:k∣n
   ·have hmod:((n:Int) % (k:Int)==0)=true:=by
     rw[beq_iff_eq];exact Int.emod_eq_zero_of_dvd (Int.ofNat_dvd.2 hd)
    have HD:=hid hd;clear hd;go_wp2;go_ret;exact⟨k,rfl,⟨hk2,HD.out,HN.out⟩,rfl⟩
   ·have hmod:((n:Int) % (k:Int)==0)=false:=by
     rw[beq_eq_false_iff_ne];intro g;exact hd (Int.ofNat_dvd.1 (Int.dvd_of_emod_eq_zero g))
    have HD:=hid hd;clear hd;go_wp2
    go_round
    case rel=>exact⟨k+1,by omega,by omega,by go_num,fun e he hlt hde=>by
     by_cases hek:e=k
     ·subst hek;exact HD.out hde
     ·exact HN.out e he (by omega) hde⟩
    case measure=>simp[intOf];omega
  ·have hle2:¬ (k:Int)*k<=n:=by omega
   have HL:=hid hle;clear hsq hle hkk;go_wp2;go_ret;exact⟨n,rfl,Num.least_self h2 (Nat.lt_of_not_le HL.out) HN.out,rfl⟩
theorem zZ (p b:Nat) (n:Int) (w:World) (h3:3<=p) (hm:p<=2147483647) (hp:w.cell? ⟨b,0,none⟩=some (.int .i64 p))
  (hn:-9223372036854775808<=n) (hn2:n<=9223372036854775807) :
  Calls Tryz.prog 19 #[.pointer (some ⟨b,0,none⟩),.int .i64 n] w fun e w'=>e=.returned (.int .i64 (n % p))/\w'=w:=by
 go_enter Tryz.func19,Tryz.ntmps19;go_wp2_with (go_at_call 51;refine (Yt n p w (by omega) (by omega) hn hn2).mono ?_;rintro e w' ⟨rfl,rfl⟩);go_ret;exact⟨rfl,rfl⟩
theorem qQ (n:Int) (p:Nat) (h3:3<=p):0<=n % (p:Int)/\n % (p:Int)<p :=
 ⟨Int.emod_nonneg _ (by omega),Int.emod_lt_of_pos _ (by omega)⟩
theorem aAy (x y:Int) (hx:0<=x) (hx2:x<=2147483647) (hy:0<=y) (hy2:y<=2147483647):0<=x*y/\x*y<=4611686014132420609:=by
 refine⟨Int.mul_nonneg hx hy,?_⟩;have:x*y<=2147483647*2147483647:=Int.mul_le_mul hx2 hy2 hy (by omega);omega
theorem kK (p b:Nat) (x y:Int) (w:World) (h3:3<=p) (hm:p<=2147483647) (hp:w.cell? ⟨b,0,none⟩=some (.int .i64 p))
  (hx:-9223372036854775808<=x) (hx2:x<=9223372036854775807) (hy:-9223372036854775808<=y) (hy2:y<=9223372036854775807) :
  Calls Tryz.prog 78 #[.pointer (some ⟨b,0,none⟩),.int .i64 x,.int .i64 y] w fun e w'=>e=.returned (.int .i64 (x*y % p))/\w'=w:=by
 obtain⟨a1,a2⟩:=qQ x p h3;obtain⟨b1,b2⟩:=qQ y p h3;obtain⟨c1,c2⟩:=aAy (x % p) (y % p) a1 (by omega) b1 (by omega);go_enter Tryz.func78,Tryz.ntmps78;go_wp2_with fail;refine (zZ p b x w h3 hm hp hx hx2).mono ?_;rintro e w' ⟨rfl,rfl⟩;go_wp2_with fail;refine (zZ p b y _ h3 hm hp hy hy2).mono ?_;rintro e w' ⟨rfl,rfl⟩;go_wp2_with fail;refine (zZ p b _ _ h3 hm hp (by omega) (by omega)).mono ?_;rintro e w' ⟨rfl,rfl⟩;go_wp2;go_ret;exact⟨xJ (Int.mul_emod x y p).symm,rfl⟩
end Go.Proofs.YtkdndfbfmchcpaaGreatDoor
namespace Go.Proofs
open Go.Shelf
def Tryz.laysLen_ren:Go.Shelf.Ren:=⟨fun | 125=>99 | 128=>136 | 129=>137 | n=>n,fun | 46=>123 | 3=>3 | 51=>145 | 53=>147 | 4=>4 | 5=>5 | 9=>9 | n=>n,fun | n=>n⟩
theorem Tryz.laysLen:Go.Proofs.Lays.n125 Tryz.prog Tryz.laysLen_ren:={
 mixed:=by kernel_rfl
 f125:=Tryz.func99.trans (congrArg some (by kernel_rfl))
 f128:=Tryz.func136.trans (congrArg some (by kernel_rfl))
 f129:=Tryz.func137.trans (congrArg some (by kernel_rfl))
 t3:=Tryz.underlying3
 a3:=Tryz.isAgg3
 z3:=Tryz.sizeOf3
 v3:=Tryz.zeroValue3
 t4:=Tryz.underlying4
 a4:=Tryz.isAgg4
 z4:=Tryz.sizeOf4
 v4:=Tryz.zeroValue4
 t5:=Tryz.underlying5
 a5:=Tryz.isAgg5
 z5:=Tryz.sizeOf5
 v5:=Tryz.zeroValue5
 t9:=Tryz.underlying9
 a9:=Tryz.isAgg9
 z9:=Tryz.sizeOf9
 v9:=Tryz.zeroValue9
 t46:=Tryz.underlying123
 a46:=Tryz.isAgg123
 z46:=Tryz.sizeOf123
 v46:=Tryz.zeroValue123
 t51:=Tryz.underlying145
 a51:=Tryz.isAgg145
 z51:=Tryz.sizeOf145
 v51:=Tryz.zeroValue145
 t53:=Tryz.underlying147
 a53:=Tryz.isAgg147
 z53:=Tryz.sizeOf147
 v53:=Tryz.zeroValue147 }
theorem YtkdndfbfmchcpaaGreatDoor.bitLenAux_lt:∀ (f x:Nat),x<2 ^ f->x<2 ^ (Lib.bitLenAux f x)
 | 0,x,h=>by simpa [Lib.bitLenAux] using h
 | f+1,x,h=>by
  unfold Lib.bitLenAux;by_cases hx:x=0
  ·simp[hx]
  ·rw[if_neg hx];have h2:x / 2<2 ^ f:=by rw[Nat.pow_succ] at h;omega
   have:=YtkdndfbfmchcpaaGreatDoor.bitLenAux_lt f (x / 2) h2;rw[Nat.add_comm,Nat.pow_succ];omega
def YtkdndfbfmchcpaaGreatDoor.blen (x:Nat):Nat:=Lib.bitLen x
theorem YtkdndfbfmchcpaaGreatDoor.blen_lt (x:Nat) (h:x<=2147483647):x<2 ^ (YtkdndfbfmchcpaaGreatDoor.blen x) :=
 YtkdndfbfmchcpaaGreatDoor.bitLenAux_lt 64 x (Nat.lt_of_le_of_lt h (by decide))
theorem YtkdndfbfmchcpaaGreatDoor.blen_le (x:Nat) (h:x<=2147483647):YtkdndfbfmchcpaaGreatDoor.blen x<=31 :=
 Lib.bitLen_le x 31 (by decide) (Nat.lt_of_le_of_lt h (by decide))
theorem YtkdndfbfmchcpaaGreatDoor.len_any (x:Int) (w:World) (h0:0<=x) (h1:x<=2147483647) :
  Calls Tryz.prog 99 #[.int .u64 x] w fun e w'=>e=.returned (.int .i64 (YtkdndfbfmchcpaaGreatDoor.blen x.toNat))/\w'=w:=Any.bits_Len Tryz.laysLen x w h0 (by omega)
end Go.Proofs
namespace Go.Proofs.YtkdndfbfmchcpaaGreatDoor
open Go.RowKit
theorem aBp (n:Int):bits .and .i64 n 1=n % 2:=by
 have h1:(BitVec.ofInt 64 1).toNat=2 ^ 1-1:=by decide
 have key:(BitVec.ofInt 64 n &&& BitVec.ofInt 64 1).toNat=(n % ((2 ^ 64:Nat):Int)).toNat % 2 ^ 1:=by rw[BitVec.toNat_and,BitVec.toNat_ofInt,h1,Nat.and_two_pow_sub_one_eq_mod]
 show IntKind.i64.wrap ((BitVec.ofInt 64 n &&& BitVec.ofInt 64 1).toNat:Nat)=n % 2;rw[key,IntKind.wrap_i64];omega
theorem aEY (E k:Nat):(bits BinOp.and IntKind.i64 ((E:Int) / 2 ^ k) 1==1)=(E / 2 ^ k % 2==1):=by
 rw[aBp];have:(E:Int) / 2 ^ k % 2=((E / 2 ^ k % 2:Nat):Int):=by simp
 rw[this,Bool.eq_iff_iff,beq_iff_eq,beq_iff_eq];omega
theorem aBq (p s x y:Nat):(Num.pwm p s x:Int)*(Num.pwm p s y:Int) % (p:Int)=(Num.pwm p s (x+y):Int):=by
 rw[<- Num.pwm_add];simp
theorem Hz (E k:Nat):E % 2 ^ (k+1)=E % 2 ^ k+2 ^ k*(E / 2 ^ k % 2):=Nat.mod_pow_succ
def el (p:Nat) (a:Int):Nat:=(a % (p:Int)).toNat
def Bg (p:Nat) (a n:Int):Nat:=if a % (p:Int)=0/\n≠0 then 0 else Num.pwm p (a % (p:Int)).toNat (n % ((p:Int)-1)).toNat
theorem aBr (p b s x y:Nat) (w:World) (h3:3<=p) (hm:p<=2147483647) (hp:w.cell? ⟨b,0,none⟩=some (.int .i64 p)) :
  Calls Tryz.prog 78 #[.pointer (some ⟨b,0,none⟩),.int .i64 (Num.pwm p s x),.int .i64 (Num.pwm p s y)] w fun e w'=>e=.returned (.int .i64 (Num.pwm p s (x+y)))/\w'=w:=by
 have h1:=Num.pwm_lt p s x (by omega);have h2:=Num.pwm_lt p s y (by omega);have:=kK p b (Num.pwm p s x) (Num.pwm p s y) w h3 hm hp (by omega) (by omega) (by omega) (by omega);rw[aBq] at this;exact this
theorem Ei (p b:Nat) (a n:Int) (w:World) (h3:3<=p) (hm:p<=2147483647) (hp:w.cell? ⟨b,0,none⟩=some (.int .i64 p))
  (ha:-9223372036854775808<=a) (ha2:a<=9223372036854775807) (hn:-9223372036854775808<=n) (hn2:n<=9223372036854775807) :
  Calls Tryz.prog 52 #[.pointer (some ⟨b,0,none⟩),.int .i64 a,.int .i64 n] w fun e w'=>e=.returned (.int .i64 (Bg p a n))/\w'=w:=by
 obtain⟨a1,a2⟩:=qQ a p h3;by_cases hz:a % (p:Int)=0/\n≠0
 ·have HF:Hid (Bg p a n=0):=by unfold Hid Bg;rw[if_pos hz]
  have z1:(a % (p:Int)==0)=true:=by rw[beq_iff_eq];exact hz.1
  have z2:(n != 0)=true:=by rw[bne_iff_ne];exact hz.2
  clear hz;go_enter Tryz.func52,Tryz.ntmps52;go_wp2_with fail;refine (zZ p b a w h3 hm hp ha ha2).mono ?_;rintro e w' ⟨rfl,rfl⟩;go_wp2_with fail;go_ret;exact⟨xJ (by rw[HF.out];rfl),rfl⟩
 ·have HF:Hid (Bg p a n=Num.pwm p (a % (p:Int)).toNat (n % ((p:Int)-1)).toNat):=by unfold Hid Bg;rw[if_neg hz]
  have hdec:(a % (p:Int)==0)=false∨((a % (p:Int)==0)=true/\(n != 0)=false):=by
   by_cases g:a % (p:Int)=0
   ·right;refine⟨by rw[beq_iff_eq];exact g,?_⟩;by_cases g2:n=0
    ·simp[g2]
    ·exact absurd ⟨g,g2⟩ hz
   ·left;rw[beq_eq_false_iff_ne];exact g
  have e1:=Int.emod_nonneg n (b:=(p:Int)-1) (by omega);have e2:=Int.emod_lt_of_pos n (b:=(p:Int)-1) (by omega);obtain⟨s,hs⟩:=Int.eq_ofNat_of_zero_le a1;obtain⟨E,hE⟩:=Int.eq_ofNat_of_zero_le e1;have hof:=hid (zZ p b a w h3 hm hp ha ha2);have hrem:=hid (Yt n ((p:Int)-1) w (by omega) (by omega) hn hn2);rw[hs] at hof a2 hdec HF;rw[hE] at hrem e2 HF;rw[Int.toNat_natCast,Int.toNat_natCast] at HF;have hEb:E<=2147483647:=by omega
  have hl:=blen_le E hEb;have HL:=hid (blen_lt E hEb);have hlen:=hid (len_any (E:Int) w (by omega) (by omega));rw[Int.toNat_natCast] at hlen;clear hz hs hE e1 a1;rcases hdec with z1 | ⟨z1,z2⟩
  all_goals
   go_enter Tryz.func52,Tryz.ntmps52;go_wp2_with fail;refine hof.out.mono ?_;rintro e w' ⟨rfl,rfl⟩;go_wp2_with fail;refine hrem.out.mono ?_;rintro e w' ⟨rfl,rfl⟩;go_wp2_with fail;refine hlen.out.mono ?_;rintro e w' ⟨rfl,rfl⟩;go_wp2_with fail;clear hof hrem hlen;go_loop [7,9,30] (fun sq pw i=>∃ k:Nat,k<=blen E/\i=.int .i64 k/\sq=.int .i64 (Num.pwm p s (2 ^ k))/\pw=.int .i64 (Num.pwm p s (E % 2 ^ k))) (fun _ _ i=>blen E-(intOf i).toNat)
   case atStart=>exact⟨0,Nat.zero_le _,rfl,by rw[Nat.pow_zero,Num.pwm_one p s (by omega)],by rw[Nat.pow_zero,Nat.mod_one,Num.pwm_zero p s (by omega)];rfl⟩
   case round =>
    obtain⟨k,hk,rfl,rfl,rfl⟩:=hrel;by_cases hlt:k<blen E
    ·have hb:=aEY E k;have hmp:=hid (Hz E k);have hsq:=hid (aBr p b s (2 ^ k) (2 ^ k) w' h3 hm hp);have hpw:=hid (aBr p b s (E % 2 ^ k) (2 ^ k) w' h3 hm hp);by_cases hodd:E / 2 ^ k % 2=1
     ·rw[hodd] at hb hmp;have hb2:(bits BinOp.and IntKind.i64 ((E:Int) / 2 ^ k) 1==1)=true:=by rw[hb];rfl
      clear hb hodd;go_wp2_with fail;refine hpw.out.mono ?_;rintro e w'' ⟨rfl,rfl⟩;go_wp2_with fail;refine hsq.out.mono ?_;rintro e w'' ⟨rfl,rfl⟩;go_wp2
      go_round
      case rel=>exact⟨k+1,by omega,by go_num,by rw[Nat.pow_succ,Nat.mul_two],by rw[hmp.out,Nat.mul_one]⟩
      case measure=>simp[intOf];omega
     ·have hev:E / 2 ^ k % 2=0:=by omega
      rw[hev] at hb hmp;have hb2:(bits BinOp.and IntKind.i64 ((E:Int) / 2 ^ k) 1==1)=false:=by rw[hb];rfl
      clear hb hodd hev;go_wp2_with fail;refine hsq.out.mono ?_;rintro e w'' ⟨rfl,rfl⟩;go_wp2
      go_round
      case rel=>exact⟨k+1,by omega,by go_num,by rw[Nat.pow_succ,Nat.mul_two],by rw[hmp.out,Nat.mul_zero,Nat.add_zero]⟩
      case measure=>simp[intOf];omega
    ·go_wp2;go_ret;refine⟨xJ ?_,rfl⟩;have hkb:k=blen E:=by omega
     rw[HF.out,hkb,Nat.mod_eq_of_lt HL.out]
theorem Pi (p b:Nat) (a:Int) (w:World) (h3:3<=p) (hm:p<=2147483647) (hp:w.cell? ⟨b,0,none⟩=some (.int .i64 p))
  (ha:-9223372036854775808<=a) (ha2:a<=9223372036854775807) :
  Calls Tryz.prog 95 #[.pointer (some ⟨b,0,none⟩),.int .i64 a] w fun e w'=>e=.returned (.int .i64 (Bg p a ((p:Int)-2)))/\w'=w:=by
 have hpw:=hid (Ei p b a ((p:Int)-2) w h3 hm hp ha ha2 (by omega) (by omega));go_enter Tryz.func95,Tryz.ntmps95;go_wp2_with fail;refine hpw.out.mono ?_;rintro e w' ⟨rfl,rfl⟩;go_wp2;go_ret;exact⟨rfl,rfl⟩
def cellsOf (ds:List Nat):List Value:=ds.map (fun d:Nat=>Value.int .i64 d)
theorem Pj (ds:List Nat) (d:Nat):cellsOf (ds++[d])=cellsOf ds++[.int .i64 d]:=by simp[cellsOf]
theorem Vp (n:Nat) (w:World) (h1:1<=n) (hm:n<=2147483647) :
  Calls Tryz.prog 100 #[.int .i64 n] w fun e w'=>∃ v ds,e=.returned v/\Num.Primes n ds /\
   w'.ownsRow w.heap.size 3 1 v ds.length (cellsOf ds)/\Below w.heap.size w w':=by
 obtain⟨i0,hi,hz0,hz1,hz2⟩:=info_parts Tryz.infoInt;go_enter Tryz.func100,Tryz.ntmps100;go_wp2
 go_loopw [0,3] (fun nv v wr=>∃ (m:Nat) (ds:List Nat),m<=2147483647/\nv=.int .i64 m/\Hid (Num.PD n m ds)/\wr.ownsRow w.heap.size 3 1 v ds.length (cellsOf ds)/\Below w.heap.size w wr)
  (fun nv _ _=>(intOf nv).toNat)
 case atStart=>exact⟨n,[],hm,rfl,Num.PD.start h1,World.ownsRow_nil _ _ _ _,Below.refl _ _⟩
 case round =>
  obtain⟨m,ds,hm2,rfl,hpd,hown,hbel⟩:=hrel;have hlen:=hpd.out.len hm;have hsz:=hbel.size;by_cases hlt:1<m
  ·have hlt2:(1:Int)<(m:Int):=by omega
   go_wp2_with fail;refine (Hy m _ (by omega) (by omega)).mono ?_;rintro e w1 ⟨d,rfl,hleast,rfl⟩;have HL:=hid hleast;clear hleast;have hd2:2<=d:=HL.out.1;have hdm:d<=m:=Nat.le_of_dvd (by omega) HL.out.2.1;go_wp2_with (at_builtin;refine wpList_append_own _ rfl _ _ 25 rfl w.heap.size 3 i0 (.int .i64 0) 1 8 Tryz.underlying25 hi hz0 hz1 hz2 rfl (by decide) _ _ _ rfl (hown.alloc _) ⟨w1.heap.size,0,none⟩ 1 1 [.int .i64 d] rfl rfl ?c1 ?c2 ?c3 ?c4 ?c5 ?_)
   case c1 =>
    intro j u hj
    match j,hj with
    | 0,hj=>simp at hj;subst hj;simp[Addr.add]
   case c2=>intro u hu;simp at hu;subst hu;rfl
   case c3=>unfold maxLen;omega
   case c4=>omega
   case c5=>simp;omega
   intro v' w2 hown2 hgrow _
   have hown3:w2.ownsRow w.heap.size 3 1 v' (ds++[d]).length (cellsOf (ds++[d])):=by rw[List.length_append,List.length_singleton,Pj];exact hown2
   have hbel2:Below w.heap.size w w2 :=
    (hbel.alloc hsz _).grown hgrow (by simp;omega) (fun k hk=>(hown.lt k hk).1)
   have HO:=hid hown3;have HB:=hid hbel2;clear hown2 hown3 hgrow hbel2 hown hbel;go_wp2_with fail;go_loop [0] (fun nv=>∃ k:Nat,k<=m/\nv=.int .i64 k/\Hid (Num.PO d m k)) (fun nv=>(intOf nv).toNat)
   case atStart=>exact⟨m,Nat.le_refl _,rfl,Num.PO.start (by omega)⟩
   case round =>
    obtain⟨k,hk,rfl,hpo⟩:=hrel;have hk1:=hpo.out.pos;by_cases hdk:d∣k
    ·have hmod:((k:Int) % (d:Int)==0)=true:=by
      rw[beq_iff_eq];exact Int.emod_eq_zero_of_dvd (Int.ofNat_dvd.2 hdk)
     have HD:=hid hdk;clear hdk;have hlt3:k / d<k:=Nat.div_lt_self (by omega) (by omega);have q1:0<=(k:Int) / (d:Int):=Int.ediv_nonneg (by omega) (by omega);have q2:(k:Int) / (d:Int)<=2147483647:=by omega
     go_wp2
     go_round
     case rel=>exact⟨k / d,by omega,by go_num,hid (hpo.out.step (Num.least_prime HL.out) HD.out)⟩
     case measure=>simp[intOf];omega
    ·have hmod:((k:Int) % (d:Int)==0)=false:=by
      rw[beq_eq_false_iff_ne];intro g;exact hdk (Int.ofNat_dvd.1 (Int.dvd_of_emod_eq_zero g))
     have HD:=hid hdk;clear hdk;have R:=hpd.out.step HL.out hpo.out HD.out;go_wp2;exact⟨⟨k,ds++[d],by omega,rfl,R.1,HO.out,HB.out⟩,by have:=R.2;simp[intOf];omega⟩
  ·go_wp2;go_ret;exact⟨_,ds,rfl,hpd.out.done (by omega) hm,hown,hbel⟩
def Jq (p:Int):Prop:=3<=p/\p<=2147483647/\Num.Prime p.toNat
theorem aEZ (p:Int) (w:World) (hno:¬ Jq p) (h1:-9223372036854775808<=p) (h2:p<=9223372036854775807) :
  Calls Tryz.prog 43 #[.int .i64 p] w fun e w'=>e=.returned (.tuple #[.pointer none,.iface 72 (.int .i64 1)])/\w'=w:=by
 by_cases h3:p<3
 ·go_enter Tryz.func43,Tryz.ntmps43;go_wp2_with fail;go_ret2;exact⟨rfl,rfl⟩
 ·by_cases h4:2147483647<p
  ·go_enter Tryz.func43,Tryz.ntmps43;go_wp2_with fail;go_ret2;exact⟨rfl,rfl⟩
  ·obtain⟨q,rfl⟩:=Int.eq_ofNat_of_zero_le (show 0<=p by omega);have HN:=hid hno;clear hno;go_enter Tryz.func43,Tryz.ntmps43;go_wp2_with fail;refine (Hy q _ (by omega) (by omega)).mono ?_;rintro e w1 ⟨d,rfl,hl,rfl⟩
   have hne:((d:Int) != (q:Int))=true:=by
    rw[bne_iff_ne];intro g;have g2:d=q:=by omega
    subst g2;exact HN.out ⟨by omega,by omega,by rw[Int.toNat_natCast];exact Num.least_prime hl⟩
   clear hl;go_wp2_with fail;go_ret2;exact⟨rfl,rfl⟩
theorem aDE (q:Nat) (w:World) (h3:3<=q) (h4:q<=2147483647) (hq:Num.Prime q) :
  Calls Tryz.prog 43 #[.int .i64 q] w fun e w'=>e=.returned (.tuple #[.pointer (some ⟨w.heap.size,0,none⟩),.nilIface])/\w'.cell? ⟨w.heap.size,0,none⟩=some (.int .i64 q)/\Below w.heap.size w w'/\w.heap.size<w'.heap.size:=by
 have HQ:=hid hq;clear hq;go_enter Tryz.func43,Tryz.ntmps43;go_wp2_with fail;refine (Hy q _ (by omega) (by omega)).mono ?_;rintro e w1 ⟨d,rfl,hl,rfl⟩;have hdq:=Num.least_unique hl (Num.prime_least HQ.out);subst hdq;clear hl;go_wp2_with fail;go_ret2;exact⟨rfl,by simp,(Below.refl _ _).alloc (Nat.le_refl _) _,by simp⟩
def Row (w:World) (v:Value) (ds:List Nat):Prop :=
 (v=.slice none 0 0/\ds=[])∨∃ g cap,v=.slice (some ⟨g,0,none⟩) ds.length cap/\∀ k,k<ds.length->w.cell? ⟨g,k,none⟩=some (.int .i64 ((ds.getD k 0:Nat):Int))
theorem Rw {w:World} {base:Nat} {v:Value} {ds:List Nat} (h:w.ownsRow base 3 1 v ds.length (cellsOf ds)):Row w v ds:=by
 rcases h.2 with ⟨h1,h2⟩ | ⟨g,cap,cur,hv,_⟩
 ·exact Or.inl ⟨h1,List.length_eq_zero_iff.1 h2⟩
 ·refine Or.inr ⟨g,cap,hv,fun k hk=>?_⟩;have:=h.cells (g:=g) (by rw[hv];rfl) k (.int .i64 ((ds.getD k 0:Nat):Int)) (by simp[cellsOf,hk]);have hadd:(⟨g,0,none⟩:Addr).add k=⟨g,k,none⟩:=by unfold Addr.add;split <;> simp_all
  rw[hadd] at this;exact this
def Fq (p:Nat) (a:Int) (ds:List Nat):Bool:=ds.all fun q=>Bg p a (((p:Int)-1) / (q:Int)) != 1
theorem Ko (p:Nat) (a:Int) (ds:List Nat) (k:Nat) (h:k<ds.length) :
  Fq p a (ds.take (k+1))=(Fq p a (ds.take k) && (Bg p a (((p:Int)-1) / ((ds.getD k 0:Nat):Int)) != 1)):=by
 unfold Fq;rw[List.take_succ_eq_append_getElem h,List.all_append];simp[h]
theorem aAz (p b:Nat) (a:Int) (v:Value) (ds:List Nat) (w:World) (h3:3<=p) (hm:p<=2147483647) (hp:w.cell? ⟨b,0,none⟩=some (.int .i64 p))
  (ha:-9223372036854775808<=a) (ha2:a<=9223372036854775807) (hr:Row w v ds) (hlen:ds.length<=31) (hds:∀ k,k<ds.length->2<=ds.getD k 0/\ds.getD k 0<=2147483647) :
  Calls Tryz.prog 101 #[.pointer (some ⟨b,0,none⟩),.int .i64 a,v] w fun e w'=>e=.returned (.bool (Fq p a ds))/\w'=w:=by
 rcases hr with ⟨rfl,rfl⟩ | ⟨g,cap,rfl,hc⟩
 ·go_enter Tryz.func101,Tryz.ntmps101;go_wp2_with fail;go_loop [11] (fun i=>i=.int .i64 0) (fun _=>0)
  case atStart=>exact rfl
  case round =>
   obtain rfl:=hrel;go_wp2_with fail;go_ret;exact⟨rfl,rfl⟩
 ·have HDS:=hid hds;have HC:=hid hc;clear hc hds;go_enter Tryz.func101,Tryz.ntmps101;go_wp2_with fail;go_loop [11] (fun i=>∃ k:Nat,k<=ds.length/\i=.int .i64 k/\Hid (Fq p a (ds.take k)=true)) (fun i=>ds.length-(intOf i).toNat)
  case atStart=>exact⟨0,Nat.zero_le _,rfl,hid rfl⟩
  case round =>
   obtain⟨k,hk,rfl,hB⟩:=hrel;by_cases hlt:k<ds.length
   ·have hcell:=HC.out k hlt;obtain⟨hq2,hq3⟩:=HDS.out k hlt;have hsucc:=hid (Ko p a ds k hlt);generalize hq:ds.getD k 0=q at *;clear hq;have q1:0<=((p:Int)-1) / (q:Int):=Int.ediv_nonneg (by omega) (by omega)
    have q2:((p:Int)-1) / (q:Int)<=2147483647:=by have:=Int.ediv_le_self (a:=(p:Int)-1) (q:Int) (by omega);omega
    have hpw:=hid (Ei p b a (((p:Int)-1) / (q:Int)) w h3 hm hp ha ha2 (by omega) (by omega));by_cases hone:Bg p a (((p:Int)-1) / (q:Int))=1
    ·have hb1:(((Bg p a (((p:Int)-1) / (q:Int)):Nat):Int)==1)=true:=by rw[hone];rfl
     rw[hone] at hsucc
     have HF:Hid (Fq p a ds=false):=by
      unfold Hid;have h1:Fq p a (ds.take (k+1))=false:=by rw[hsucc.out];simp
      rw[<- List.take_append_drop (k+1) ds];unfold Fq at h1 ⊢;rw[List.all_append,h1,Bool.false_and]
     clear hone;go_wp2_with fail;refine hpw.out.mono ?_;rintro e w' ⟨rfl,rfl⟩;go_wp2_with fail;go_ret;exact⟨Ck HF.out.symm,rfl⟩
    ·have hb1:(((Bg p a (((p:Int)-1) / (q:Int)):Nat):Int)==1)=false:=by rw[beq_eq_false_iff_ne];omega
     have hT:Hid (Fq p a (ds.take (k+1))=true):=by unfold Hid;rw[hsucc.out,hB.out,Bool.true_and,bne_iff_ne];exact hone
     clear hone;go_wp2_with fail;refine hpw.out.mono ?_;rintro e w' ⟨rfl,rfl⟩;go_wp2_with fail
     go_round
     case rel=>exact⟨k+1,by omega,by go_num,hT⟩
     case measure=>simp[intOf];omega
   ·have hkl:k=ds.length:=by omega
    have HF:Hid (Fq p a ds=true):=by have:=hB.out;rw[hkl,List.take_length] at this;exact this
    clear hB;go_wp2_with fail;go_ret;exact⟨Ck HF.out.symm,rfl⟩
theorem aA0 (p x n:Nat) (h3:3<=p) (h1:1<=x) (h2:x<p) (hn:n<p-1):Bg p x n=Num.pwm p x n:=by
 have e:(x:Int) % (p:Int)=x:=Int.emod_eq_of_lt (by omega) (by omega);have e2:(n:Int) % ((p:Int)-1)=n:=Int.emod_eq_of_lt (by omega) (by omega);unfold Bg;rw[e,e2,if_neg (by omega),Int.toNat_natCast,Int.toNat_natCast]
theorem Rx (p q:Nat) (h3:3<=p):((p:Int)-1) / (q:Int)=(((p-1) / q:Nat):Int):=by
 have:((p:Int)-1)=((p-1:Nat):Int):=by omega
 rw[this];simp
theorem aBs (p x:Nat) (ds:List Nat) (h3:3<=p) (h1:1<=x) (h2:x<p) (hds:Num.Primes (p-1) ds):Fq p x ds=true↔Num.IsGen p x:=by
 have key:∀ q,Num.Prime q->Bg p x (((p:Int)-1) / (q:Int))=Num.pwm p x ((p-1) / q):=by intro q hq;rw[Rx p q h3,aA0 p x _ h3 h1 h2 (Nat.div_lt_self (by omega) hq.1)]
 unfold Fq Num.IsGen;rw[List.all_eq_true];constructor
 ·intro h q hq hd;have:=h q ((hds.1 q).2 ⟨hq,hd⟩);rw[bne_iff_ne,key q hq] at this;exact this
 ·intro h q hq;obtain⟨g1,g2⟩:=(hds.1 q).1 hq;rw[bne_iff_ne,key q g1];exact h q g1 g2
theorem Nl {n:Nat} {ds:List Nat} (hn:1<=n) (hm:n<=2147483647) (h:Num.Primes n ds):∀ k,k<ds.length->2<=ds.getD k 0/\ds.getD k 0<=2147483647:=by
 intro k hk
 have hmem:ds.getD k 0∈ds:=by simp[hk]
 obtain⟨g1,g2⟩:=(h.1 _).1 hmem;have:=Nat.le_of_dvd (by omega) g2;exact⟨g1.1,by omega⟩
theorem Yu (p b:Nat) (w:World) (h3:3<=p) (hm:p<=2147483647) (hp:w.cell? ⟨b,0,none⟩=some (.int .i64 p)) (hb:b<w.heap.size) :
  Calls Tryz.prog 53 #[.pointer (some ⟨b,0,none⟩)] w fun e w'=>∃ g:Nat,e=.returned (.int .i64 g)/\Num.GenIs p g/\Below w.heap.size w w':=by
 have hpr:=hid (Vp (p-1) w (by omega) (by omega));rw[show (((p-1:Nat)):Int)=(p:Int)-1 from by omega] at hpr;go_enter Tryz.func53,Tryz.ntmps53;go_wp2_with fail;refine hpr.out.mono ?_;rintro e w1 ⟨v,ds,rfl,hds,hown,hbel⟩;have hp1:w1.cell? ⟨b,0,none⟩=some (.int .i64 p):=(hbel.cell hb).trans hp;have HR:=hid (Rw hown);have HD:=hid hds;have HB:=hid hbel;have HQ:=hid (Nl (by omega) (by omega) hds);have hl31:=hds.2;clear hpr hown hds hbel;go_wp2_with fail;go_loop [15] (fun i=>∃ k:Nat,k<=p/\i=.int .i64 k/\Hid (∀ x,1<=x->x<k->¬ Num.IsGen p x)) (fun i=>p-(intOf i).toNat)
 case atStart=>exact⟨0,Nat.zero_le _,rfl,hid (fun x _ hx=>by omega)⟩
 case round =>
  obtain⟨k,hk,rfl,hno⟩:=hrel;by_cases hlt:k<p
  ·have hlt2:(k:Int)<(p:Int):=by omega
   by_cases hk0:0<k
   ·have hk02:(0:Int)<(k:Int):=by omega
    have hig:=hid (aAz p b (k:Int) v ds w1 h3 hm hp1 (by omega) (by omega) HR.out hl31 HQ.out);have hiff:=hid (aBs p k ds h3 hk0 hlt HD.out);by_cases hg:Fq p k ds=true
    ·rw[hg] at hig;have HG:=hid (hiff.out.1 hg);clear hg;go_wp2_with fail;refine hig.out.mono ?_;rintro e w2 ⟨rfl,rfl⟩;go_wp2_with fail;go_ret;exact⟨k,rfl,Or.inl ⟨hk0,hlt,HG.out,hno.out⟩,HB.out⟩
    ·have hgf:Fq p k ds=false:=by simpa using hg
     rw[hgf] at hig;have HG:Hid (¬ Num.IsGen p k):=fun h=>hg (hiff.out.2 h);clear hg hgf;go_wp2_with fail;refine hig.out.mono ?_;rintro e w2 ⟨rfl,rfl⟩;go_wp2_with fail
     go_round
     case rel=>exact⟨k+1,by omega,by go_num,fun x hx1 hx2=>by
      by_cases hxk:x=k
      ·subst hxk;exact HG.out
      ·exact hno.out x hx1 (by omega)⟩
     case measure=>simp[intOf];omega
   ·have hk02:¬ (0:Int)<(k:Int):=by omega
    have hdec:decide ((0:Int)<(k:Int))=false:=by simpa using hk02
    go_wp2_with fail
    go_round
    case rel=>exact⟨k+1,by omega,by go_num,fun x hx1 hx2=>by omega⟩
    case measure=>simp[intOf];omega
  ·have hkp:k=p:=by omega
   have HN:Hid (∀ x,1<=x->x<p->¬ Num.IsGen p x):=fun x hx1 hx2=>hno.out x hx1 (by omega);have hlt2:¬ (k:Int)<(p:Int):=by omega
   clear hkp;go_wp2_with fail;go_ret;exact⟨0,rfl,Or.inr ⟨rfl,HN.out⟩,HB.out⟩
theorem aBt (p:Nat) (a:Int) (n:Nat) (hp:Num.Prime p) (h3:3<=p) (h0:a % (p:Int)≠0):Bg p a n=Num.pwm p (a % (p:Int)).toNat n:=by
 obtain⟨a1,a2⟩:=qQ a p h3
 have e:(n:Int) % ((p:Int)-1)=((n % (p-1):Nat):Int):=by rw[show (p:Int)-1=((p-1:Nat):Int) from by omega];simp
 unfold Bg;rw[if_neg (fun h=>h0 h.1),e,Int.toNat_natCast,Num.pwm_mod hp (by omega) (by omega)]
theorem Jr (p:Nat) (a:Int) (h3:3<=p):((el p a:Nat):Int)=a % p:=by
 have:=(qQ a p h3).1;unfold el;omega
theorem Yv (p:Nat) (a:Int) (h3:3<=p):el p a<p:=by
 have:=qQ a p h3;unfold el;omega
def yX (p:Nat) (a:Int):Nat:=Num.pwm p (el p a) (p-2)
theorem Fr (p:Nat) (a:Int) (h3:3<=p):yX p a<p:=Num.pwm_lt _ _ _ (by omega)
theorem Ev (p n:Nat) (hn:n≠0):Num.pwm p 0 n=0:=by
 unfold Num.pwm;rw[Nat.zero_pow (by omega),Nat.zero_mod]
theorem aA1 (p:Nat) (a n:Int) (h:a % (p:Int)=0) (hn:n≠0):Bg p a n=0:=by unfold Bg;rw[if_pos ⟨h,hn⟩]
theorem Cw (p N:Nat) (a:Int) (hp:Num.Prime p) (h3:3<=p):Bg p a N=Num.pwm p (el p a) N:=by
 by_cases hz:a % (p:Int)=0
 ·have he:el p a=0:=by unfold el;rw[hz];rfl
  by_cases hN:N=0
  ·subst hN;unfold Bg;rw[if_neg (by simp),he,hz];simp
  ·rw[aA1 p a N hz (by omega),he,Ev p N hN]
 ·obtain⟨a1,a2⟩:=qQ a p h3
  have e:(N:Int) % ((p:Int)-1)=((N % (p-1):Nat):Int):=by rw[show (p:Int)-1=((p-1:Nat):Int) from by omega];simp
  unfold Bg el;rw[if_neg (fun h=>hz h.1),e,Int.toNat_natCast,Num.pwm_mod hp (by omega) (by omega)]
theorem Pk (p:Nat) (a:Int) (hp:Num.Prime p) (h3:3<=p):Bg p a ((p:Int)-2)=yX p a:=by
 rw[show (p:Int)-2=((p-2:Nat):Int) from by omega,Cw p (p-2) a hp h3];rfl
theorem yV (p b:Nat) (x y:Int) (w:World) (h3:3<=p) (hm:p<=2147483647) (hp:w.cell? ⟨b,0,none⟩=some (.int .i64 p))
  (hx:-9223372036854775808<=x) (hx2:x<=9223372036854775807) (hy:-9223372036854775808<=y) (hy2:y<=9223372036854775807) :
  Calls Tryz.prog 64 #[.pointer (some ⟨b,0,none⟩),.int .i64 x,.int .i64 y] w fun e w'=>e=.returned (.int .i64 ((x+y) % p))/\w'=w:=by
 obtain⟨a1,a2⟩:=qQ x p h3;obtain⟨b1,b2⟩:=qQ y p h3;go_enter Tryz.func64,Tryz.ntmps64;go_wp2_with fail;refine (zZ p b x w h3 hm hp hx hx2).mono ?_;rintro e w' ⟨rfl,rfl⟩;go_wp2_with fail;refine (zZ p b y _ h3 hm hp hy hy2).mono ?_;rintro e w' ⟨rfl,rfl⟩;go_wp2_with fail;refine (zZ p b _ _ h3 hm hp (by omega) (by omega)).mono ?_;rintro e w' ⟨rfl,rfl⟩;go_wp2_with fail;go_ret;exact⟨rfl,rfl⟩
theorem Ej (p b:Nat) (x y:Int) (w:World) (h3:3<=p) (hm:p<=2147483647) (hp:w.cell? ⟨b,0,none⟩=some (.int .i64 p))
  (hx:-9223372036854775808<=x) (hx2:x<=9223372036854775807) (hy:-9223372036854775808<=y) (hy2:y<=9223372036854775807) :
  Calls Tryz.prog 109 #[.pointer (some ⟨b,0,none⟩),.int .i64 x,.int .i64 y] w fun e w'=>e=.returned (.int .i64 ((x-y) % p))/\w'=w:=by
 obtain⟨a1,a2⟩:=qQ x p h3;obtain⟨b1,b2⟩:=qQ y p h3;go_enter Tryz.func109,Tryz.ntmps109;go_wp2_with fail;refine (zZ p b x w h3 hm hp hx hx2).mono ?_;rintro e w' ⟨rfl,rfl⟩;go_wp2_with fail;refine (zZ p b y _ h3 hm hp hy hy2).mono ?_;rintro e w' ⟨rfl,rfl⟩;go_wp2_with fail;refine (zZ p b _ _ h3 hm hp (by omega) (by omega)).mono ?_;rintro e w' ⟨rfl,rfl⟩;go_wp2_with fail;go_ret;exact⟨rfl,rfl⟩
theorem aFa (p s:Nat) (h:s<p):el p (s:Int)=s:=by
 unfold el;rw[Int.emod_eq_of_lt (by omega) (by omega)];simp
theorem aBu {p g:Nat} (h3:3<=p) (h:Num.GenIs p g):g<p:=by
 rcases h with ⟨_,h,_⟩ | ⟨h,_⟩ <;> omega
def Kp (p:Nat) (n:Int) (r:Nat):Prop :=
 ((n<1∨((p:Int)-1) % n≠0)/\r=0)∨(1<=n/\((p:Int)-1) % n=0/\∃ g,Num.GenIs p g/\r=Num.pwm p g ((p-1) / n.toNat))
theorem Vq (p:Nat) (n:Int) (h3:3<=p) (hn:1<=n):0<=((p:Int)-1) / n/\((p:Int)-1) / n<=(p:Int)-1/\((p:Int)-1) / n=(((p-1) / n.toNat:Nat):Int):=by
 refine⟨Int.ediv_nonneg (by omega) (by omega),Int.ediv_le_self _ (by omega),?_⟩;obtain⟨k,rfl⟩:=Int.eq_ofNat_of_zero_le (show 0<=n by omega);rw[Int.toNat_natCast];exact Rx p k h3
theorem aBv (p b:Nat) (n:Int) (w:World) (hpr:Num.Prime p) (h3:3<=p) (hm:p<=2147483647) (hp:w.cell? ⟨b,0,none⟩=some (.int .i64 p)) (hbl:b<w.heap.size) (hn:-9223372036854775808<=n) (hn2:n<=9223372036854775807) :
  Calls Tryz.prog 20 #[.pointer (some ⟨b,0,none⟩),.int .i64 n] w fun e w'=>∃ r:Nat,e=.returned (.int .i64 r)/\Kp p n r/\Below w.heap.size w w':=by
 have hgen:=hid (Yu p b w h3 hm hp hbl);by_cases h1:n<1
 ·clear hpr;go_enter Tryz.func20,Tryz.ntmps20;go_wp2_with fail;go_ret;exact⟨0,rfl,Or.inl ⟨Or.inl h1,rfl⟩,Below.refl _ _⟩
 ·by_cases hd:((p:Int)-1) % n=0
  ·have hb:(((p:Int)-1) % n != 0)=false:=by rw[hd];rfl
   obtain⟨q1,q2,q3⟩:=Vq p n h3 (by omega);have HD:=hid hd
   have HPW:Hid (∀ (g:Nat) (w:World),g<p->w.cell? ⟨b,0,none⟩=some (.int .i64 p)->Calls Tryz.prog 52 #[.pointer (some ⟨b,0,none⟩),.int .i64 g,.int .i64 (((p:Int)-1) / n)] w fun e w'=>e=.returned (.int .i64 (Num.pwm p g ((p-1) / n.toNat)))/\w'=w):=by intro g w hg hp;have:=Ei p b (g:Int) (((p:Int)-1) / n) w h3 hm hp (by omega) (by omega) (by omega) (by omega);rw[q3,Cw p _ (g:Int) hpr h3,aFa p g hg] at this;rw[q3];exact this
   have HGEN:Hid (∀ w1:World,w1.cell? ⟨b,0,none⟩=some (.int .i64 p)->b<w1.heap.size->Calls Tryz.prog 53 #[.pointer (some ⟨b,0,none⟩)] w1 fun e w'=>∃ g:Nat,e=.returned (.int .i64 g)/\Num.GenIs p g/\Below w1.heap.size w1 w') :=
    fun w1 h1 h2=>Yu p b w1 h3 hm h1 h2
   clear hd q3 hpr hgen;go_enter Tryz.func20,Tryz.ntmps20;go_wp2_with fail
   go_region_with (first
    | (go_at_call 53;refine (HGEN.out _ ?_ ?_).mono ?_;exact hp;exact hbl;rintro e w1 ⟨g,rfl,hg,hbel⟩;have hp1:=(hbel.cell (p:=⟨b,0,none⟩) hbl).trans hp;have HG:=hid hg;have HB:=hid hbel;clear hg hbel)
    | (go_at_call 52;refine (HPW.out g _ ?_ ?_).mono ?_;exact aBu h3 HG.out;exact hp1;rintro e w2 ⟨rfl,rfl⟩))
   all_goals
    go_wp2_with fail;go_ret;exact⟨_,rfl,Or.inr ⟨by omega,HD.out,g,HG.out,rfl⟩,((Below.refl w.heap.size w).drew).trans HB.out⟩
  ·have hb:(((p:Int)-1) % n != 0)=true:=by rw[bne_iff_ne];exact hd
   have HD:=hid hd;clear hd hpr;go_enter Tryz.func20,Tryz.ntmps20;go_wp2_with fail;go_ret;exact⟨0,rfl,Or.inl ⟨Or.inr HD.out,rfl⟩,Below.refl _ _⟩
theorem Ny (p b:Nat) (w:World) (hp:w.cell? ⟨b,0,none⟩=some (.int .i64 p)) :
  Calls Tryz.prog 44 #[.pointer (some ⟨b,0,none⟩)] w fun e w'=>e=.returned (.int .i64 p)/\w'=w:=by
 go_enter Tryz.func44,Tryz.ntmps44;go_wp2_with fail;go_ret;exact⟨rfl,rfl⟩
def zat (zs:List Int) (i:Nat):Int:=zs[i]?.getD 0
def Ry (P:Nat->Prop) (w:World) (a:Option Addr) (zs:List Int):Prop :=
 ∀ k,k<zs.length->∃ b o,a=some ⟨b,o,none⟩/\P b/\w.cell? ⟨b,o+k,none⟩=some (.int .i64 (zat zs k))
def RowB (n0:Nat) (w:World) (a:Option Addr) (zs:List Int):Prop :=
 ∀ k,k<zs.length->∃ b o,a=some ⟨b,o,none⟩/\b<n0/\w.cell? ⟨b,o+k,none⟩=some (.int .i64 (zat zs k))
theorem RowB.below {n0:Nat} {A B:World} {a:Option Addr} {zs:List Int} (h:Below n0 A B) (r:RowB n0 A a zs):RowB n0 B a zs:=by
 intro k hk;obtain⟨b,o,h1,h2,h3⟩:=r k hk;exact⟨b,o,h1,h2,(h.cell (p:=⟨b,o+k,none⟩) h2).trans h3⟩
theorem RowB.mono {n0 n1:Nat} {A:World} {a:Option Addr} {zs:List Int} (h:n0<=n1) (r:RowB n0 A a zs):RowB n1 A a zs:=by
 intro k hk;obtain⟨b,o,h1,h2,h3⟩:=r k hk;exact⟨b,o,h1,by omega,h3⟩
theorem RowB.p {n0:Nat} {P:Nat->Prop} {A:World} {a:Option Addr} {zs:List Int} (h:∀ b,b<n0->P b) (r:RowB n0 A a zs):Ry P A a zs:=by
 intro k hk;obtain⟨b,o,h1,h2,h3⟩:=r k hk;exact⟨b,o,h1,h b h2,h3⟩
structure Only (g:Nat) (w w':World):Prop where
 os:w'.os=w.os
 tape:w'.tape=w.tape
 output:w'.output=w.output
 size:w'.heap.size=w.heap.size
 block:∀ k,k≠g->w'.heap[k]?=w.heap[k]?
theorem Only.refl (g:Nat) (w:World):Only g w w:=⟨rfl,rfl,rfl,rfl,fun _ _=>rfl⟩
theorem Only.trans {g:Nat} {a b c:World} (h:Only g a b) (k:Only g b c):Only g a c :=
 ⟨k.os.trans h.os,k.tape.trans h.tape,k.output.trans h.output,k.size.trans h.size,fun i hi=>(k.block i hi).trans (h.block i hi)⟩
theorem Only.drew {g:Nat} {a w:World} (h:Only g a w):Only g a w.drew:=⟨h.os,h.tape,h.output,h.size,h.block⟩
theorem Only.drewN {g:Nat} {a w:World} (h:Only g a w) (n:Nat):Only g a (w.drewN n):=h.trans ⟨rfl,rfl,rfl,rfl,fun _ _=>rfl⟩
theorem Only.setCell {g:Nat} {a w:World} (h:Only g a w) {p:Addr} (hp:p.block=g) (u:Value):Only g a (w.setCell p u) :=
 h.trans ⟨rfl,rfl,rfl,by simp[World.setCell],fun k hk=>Below.heap_setCell _ _ _ _ (by omega)⟩
theorem Only.cell {g:Nat} {w w':World} (h:Only g w w') {p:Addr} (hp:p.block≠g):w'.cell? p=w.cell? p:=World.cell?_of_block (w:=w) (h.block p.block hp)
theorem Only.below {g n0:Nat} {w w':World} (h:Only g w w') (hg:n0<=g):Below n0 w w' :=
 ⟨h.os,h.tape,h.output,by rw[h.size];exact Nat.le_refl _,fun k hk=>h.block k (by omega)⟩
def up (f:Nat->Int) (i:Nat) (x:Int):Nat->Int:=fun j=>if j=i then x else f j
structure Cells (g o n:Nat) (f:Nat->Int) (W:World):Prop where
 cells:∀ j,j<n->W.cell? ⟨g,o+j,none⟩=some (.int .i64 (f j))
 soft:∀ j,j<n->W.frozen? ⟨g,o+j,none⟩=false
theorem Cells.set {g o n:Nat} {f:Nat->Int} {W:World} (h:Cells g o n f W) {i:Nat} (x:Int) (hi:i<n):Cells g o n (up f i x) (W.setCell ⟨g,o+i,none⟩ (.int .i64 x)):=by
 refine⟨fun j hj=>?_,fun j hj=>by rw[World.frozen?_setCell];exact h.soft j hj⟩;unfold up;by_cases hji:j=i
 ·subst hji;rw[if_pos rfl];exact World.cell?_setCell_same _ _ _ (h.cells j hj)
 ·rw[if_neg hji,World.cell?_setCell_other _ _ _ _ (by intro e;injection e with _ h2 _;omega)];exact h.cells j hj
theorem Cells.congr {g o n:Nat} {f f':Nat->Int} {W:World} (h:Cells g o n f W) (e:∀ j,j<n->f j=f' j):Cells g o n f' W :=
 ⟨fun j hj=>by rw[<- e j hj];exact h.cells j hj,h.soft⟩
theorem Cells.block {g o n:Nat} {f:Nat->Int} {W W':World} (h:Cells g o n f W) (e:W'.heap[g]?=W.heap[g]?):Cells g o n f W' :=
 ⟨fun j hj=>(World.cell?_of_block (w:=W) (a:=⟨g,o+j,none⟩) e).trans (h.cells j hj),fun j hj=>(World.frozen?_of_block (w:=W) (a:=⟨g,o+j,none⟩) e).trans (h.soft j hj)⟩
theorem Cells.only {g g' o n:Nat} {f:Nat->Int} {W W':World} (h:Cells g o n f W) (e:Only g' W W') (hg:g≠g'):Cells g o n f W':=h.block (e.block g hg)
theorem Cells.below {g o n n0:Nat} {f:Nat->Int} {W W':World} (h:Cells g o n f W) (e:Below n0 W W') (hg:g<n0):Cells g o n f W':=h.block (e.block g hg)
theorem Cells.drew {g o n:Nat} {f:Nat->Int} {W:World} (h:Cells g o n f W):Cells g o n f W.drew:=⟨h.cells,h.soft⟩
theorem Cells.less {g o n m:Nat} {f:Nat->Int} {W:World} (h:Cells g o n f W) (e:m<=n):Cells g o m f W:=⟨fun j hj=>h.cells j (by omega),fun j hj=>h.soft j (by omega)⟩
theorem Cells.row {g n:Nat} {f:Nat->Int} {W:World} (h:Cells g 0 n f W) {zs:List Int} (hn:zs.length<=n) (hz:∀ j,j<zs.length->zat zs j=f j) {n0:Nat} (hg:g<n0):RowB n0 W (some ⟨g,0,none⟩) zs :=
 fun k hk=>⟨g,0,rfl,hg,by rw[hz k hk];exact h.cells k (by omega)⟩
def aBw (n0:Nat) (w:World) (a:Option Addr) (zs:List Int):Prop:=Ry (fun b=>n0<=b/\b<w.heap.size) w a zs
theorem Cells.newr {g n:Nat} {f:Nat->Int} {W:World} (h:Cells g 0 n f W) {zs:List Int} (hn:zs.length<=n) (hz:∀ j,j<zs.length->zat zs j=f j) {n0:Nat} (h0:n0<=g) (hg:g<W.heap.size):aBw n0 W (some ⟨g,0,none⟩) zs :=
 fun k hk=>⟨g,0,rfl,⟨h0,hg⟩,by rw[hz k hk];exact h.cells k (by omega)⟩
def Fits (zs:List Int):Prop:=∀ j,j<zs.length->-9223372036854775808<=zat zs j/\zat zs j<=9223372036854775807
theorem aFb (zs:List Int) (j:Nat):zat zs j=zs.getD j 0:=by simp[zat]
theorem Fits.all {zs:List Int} (h:Fits zs) (j:Nat):-9223372036854775808<=zat zs j/\zat zs j<=9223372036854775807:=by
 by_cases hj:j<zs.length
 ·exact h j hj
 ·simp[zat,show zs.length<=j from by omega]
def aFc (w:World) (v:Value) (xs:List Int):Prop :=
 ∃ a cap,v=.slice a xs.length cap/\∀ k,k<xs.length->∃ b o,a=some ⟨b,o,none⟩/\w.cell? ⟨b,o+k,none⟩=some (.int .i64 (xs.getD k 0))
theorem Pm {xs ys:List Int} {k:Nat} (hx:k<xs.length) (hy:k<ys.length) (h:xs.take k=ys.take k) (hk:xs.getD k 0=ys.getD k 0):xs.take (k+1)=ys.take (k+1):=by
 rw[List.take_succ_eq_append_getElem hx,List.take_succ_eq_append_getElem hy,h];have:xs[k]=ys[k]:=by simpa [hx,hy] using hk
 rw[this]
theorem aBx (xs ys:List Int) (va vb:Value) (w:World) (ha:aFc w va xs) (hb:aFc w vb ys) (hx:xs.length<=9223372036854775807) (_hy:ys.length<=9223372036854775807) :
  Calls Tryz.prog 15 #[va,vb] w fun e w'=>e=.returned (.bool (decide (xs=ys)))/\∃ n,w'=w.drewN n:=by
 obtain⟨a,ca,rfl,hca⟩:=ha;obtain⟨b,cb,rfl,hcb⟩:=hb;have HA:=hid hca;have HB:=hid hcb;clear hca hcb;by_cases hl:xs.length=ys.length
 ·have HL:=hid hl;rw[<- hl];clear hl;go_enter Tryz.func15,Tryz.ntmps15;go_wp2_with fail;go_loopw [5] (fun i wr=>∃ k n:Nat,k<=xs.length/\i=.int .i64 k/\Hid (xs.take k=ys.take k)/\wr=w.drewN n) (fun i _=>xs.length-(intOf i).toNat)
  case atStart=>exact⟨0,0,Nat.zero_le _,rfl,hid rfl,rfl⟩
  case round =>
   obtain⟨k,n,hk,rfl,hT,rfl⟩:=hrel;by_cases hlt:k<xs.length
   ·have hlt2:(k:Int)<(xs.length:Int):=by omega
    obtain⟨b1,o1,rfl,hc1⟩:=HA.out k hlt;obtain⟨b2,o2,rfl,hc2⟩:=HB.out k (by have:=HL.out;omega);have HS:=hid (fun h=>Pm hlt (show k<ys.length by have:=HL.out;omega) hT.out h);have HNE:Hid (xs.getD k 0≠ys.getD k 0->¬ xs=ys):=fun h e=>h (by rw[e]);generalize xs.getD k 0=x at *;generalize ys.getD k 0=y at *;by_cases hxy:x=y
    ·have hb:(x != y)=false:=by rw[bne_eq_false_iff_eq];exact hxy
     have HS2:=hid (HS.out hxy);clear hxy HS HNE;go_wp2_with fail;go_quiet (fail)
     go_wp2_with fail;go_roundw
     case rel=>exact⟨k+1,_,by omega,by go_num,HS2,rfl⟩
     case measure=>simp[intOf];omega
    ·have hb:(x != y)=true:=by rw[bne_iff_ne];exact hxy
     have HE:=hid (HNE.out hxy);clear hxy HS HNE;go_wp2_with fail;go_quiet (fail)
     go_wp2_with fail;go_ret;exact⟨Ck (decide_eq_false HE.out).symm,_,World.drewN_drewN _ _ _⟩
   ·have hlt2:¬ (k:Int)<(xs.length:Int):=by omega
    have HE:Hid (xs=ys):=by unfold Hid;have h1:=hT.out;have h2:=HL.out;rw[List.take_of_length_le (by omega),List.take_of_length_le (by omega)] at h1;exact h1
    go_wp2_with fail;go_ret;exact⟨Ck (decide_eq_true HE.out).symm,n,rfl⟩
 ·have hne:((xs.length:Int) != (ys.length:Int))=true:=by rw[bne_iff_ne];omega
  have HE:Hid (¬ xs=ys):=fun h=>hl (by rw[h]);clear hl;go_enter Tryz.func15,Tryz.ntmps15;go_wp2_with fail;go_ret;exact⟨Ck (decide_eq_false HE.out).symm,0,rfl⟩
theorem Nz {n0:Nat} {w:World} {a:Option Addr} {zs:List Int} (cap:Nat) (h:RowB n0 w a zs):aFc w (.slice a zs.length cap) zs :=
 ⟨a,cap,rfl,fun k hk=>by
  obtain⟨b,o,h1,_,h3⟩:=h k hk
  exact⟨b,o,h1,h3⟩⟩
theorem Pn {w:World} {base:Nat} {v:Value} {zs:List Int} (h:w.ownsRow base 3 1 v zs.length (zs.map (Value.int .i64))):∃ a cap,v=.slice a zs.length cap/\RowB w.heap.size w a zs:=by
 rcases h.2 with ⟨h1,h2⟩ | ⟨g,cap,cur,hv,_,hg,_⟩
 ·refine⟨none,0,by rw[h1,h2],fun k hk=>by omega⟩
 ·refine⟨some ⟨g,0,none⟩,cap,hv,fun k hk=>⟨g,0,rfl,(Array.getElem?_eq_some_iff.1 hg).1,?_⟩⟩;have:=h.cells (g:=g) (by rw[hv];rfl) k (.int .i64 (zat zs k)) (by simp[zat,hk]);have hadd:(⟨g,0,none⟩:Addr).add k=⟨g,k,none⟩:=by unfold Addr.add;split <;> simp_all
  rw[hadd] at this;rw[Nat.zero_add];exact this
structure Lst (n0:Nat) (w:World) (a:Option Addr) (cap:Nat) (zs:List Int):Prop where
 row:RowB n0 w a zs
 room:zs.length<=cap
 nil:a=none->cap=0
theorem Lst.below {n0:Nat} {A B:World} {a:Option Addr} {cap:Nat} {zs:List Int} (h:Below n0 A B) (r:Lst n0 A a cap zs):Lst n0 B a cap zs:=⟨r.row.below h,r.room,r.nil⟩
theorem Lst.mono {n0 n1:Nat} {A:World} {a:Option Addr} {cap:Nat} {zs:List Int} (h:n0<=n1) (r:Lst n0 A a cap zs):Lst n1 A a cap zs:=⟨r.row.mono h,r.room,r.nil⟩
theorem Lst.none (n0:Nat) (w:World):Lst n0 w none 0 []:=⟨fun k hk=>by simp at hk,by simp,fun _=>rfl⟩
theorem kY {w:World} {base:Nat} {v:Value} {zs:List Int} (h:w.ownsRow base 3 1 v zs.length (zs.map (Value.int .i64))):∃ a cap,v=.slice a zs.length cap/\Lst w.heap.size w a cap zs:=by
 obtain⟨a,cap,h1,h2⟩:=Pn h;refine⟨a,cap,h1,h2,?_,?_⟩
 ·rcases h.2 with ⟨g1,g2⟩ | ⟨g,c,cur,hv,_,_,hn,_⟩
  ·omega
  ·rw[h1] at hv;injection hv with _ _ e3;omega
 ·intro ha;rcases h.2 with ⟨g1,g2⟩ | ⟨g,c,cur,hv,_⟩
  ·rw[h1] at g1;injection g1
  ·rw[h1,ha] at hv;injection hv with e1;cases e1
def ls (F:Nat->Int) (k:Nat):List Int:=(List.range k).map F
theorem kQ (F:Nat->Int) (k:Nat):(ls F k).length=k:=by simp[ls]
theorem Po (F:Nat->Int) (k:Nat):ls F (k+1)=ls F k++[F k]:=by simp[ls,List.range_succ]
theorem kZ (F:Nat->Int) (k j:Nat) (h:j<k):zat (ls F k) j=F j:=by simp[ls,zat,h]
open Go.RowKit Go.Extern.Stop Go.Stop Go.Extern
theorem Js {w:World} {a:Addr} {v:Value} (h:w.cell? a=some v):a.block<w.heap.size:=by
 rcases Nat.lt_or_ge a.block w.heap.size with g | g
 ·exact g
 ·simp[World.cell?,Array.getElem?_eq_none g] at h
abbrev pz (b : Nat) : Value := .pointer (some ⟨b, 0, none⟩)
theorem blA {w W : World} {o : Obj} (h : W = w.alloc o) : Below w.heap.size w W := by rw [h]; exact (Below.refl _ _).alloc (Nat.le_refl _) _
theorem haA {w W : World} {cs : Array Value} {t : TypeId} (h : W = w.alloc (.cells cs t)) : W.heap[w.heap.size]? = some (.cells cs t (0, 0)) := by rw [h]; exact heap_alloc_new w _
theorem clA {W : World} {b : Nat} {cs : Array Value} {t : TypeId} {f : Nat × Nat} {v : Value} (j : Nat) (h : W.heap[b]? = some (.cells cs t f)) (hv : cs[j]? = some v) : W.cell? ⟨b, j, none⟩ = some v := by simp [World.cell?, h, hv]
theorem qpL {w : World} {a : Addr} {v : Value} (h : w.cell? a = some v) : Hid (∀ nn, (w.drewN nn).cell? a = some v) := fun _ => h
theorem exE {α : Type} (a : α) : ∃ x, x = a := ⟨a, rfl⟩
theorem aS0 {α : Type} (l : List α) (i : Nat) (a : α) : l.toArray.setIfInBounds i a = (l.set i a).toArray := List.setIfInBounds_toArray l i a
theorem aS1 {α : Type} (x : α) (l : List α) (a : α) : (x :: l).set 0 a = a :: l := List.set_cons_zero
theorem aS2 {α : Type} (x : α) (l : List α) (n : Nat) (a : α) : (x :: l).set (n + 1) a = x :: l.set n a := List.set_cons_succ
theorem Ac : (∀ (a : Act) (t : Tmp) (v : Value), a.put (some t) v = { a with tmps := a.tmps.setIfInBounds t v }) /\ (∀ (l : List Value) (i : Nat) (a : Value), l.toArray.setIfInBounds i a = (l.set i a).toArray) /\ (∀ (x : Value) (l : List Value) (a : Value), (x :: l).set 0 a = a :: l) /\ (∀ (x : Value) (l : List Value) (n : Nat) (a : Value), (x :: l).set (n + 1) a = x :: l.set n a) := ⟨fun _ _ _ => rfl, List.setIfInBounds_toArray, fun _ _ _ => List.set_cons_zero, fun _ _ _ _ => List.set_cons_succ⟩
end Go.Proofs.YtkdndfbfmchcpaaGreatDoor
