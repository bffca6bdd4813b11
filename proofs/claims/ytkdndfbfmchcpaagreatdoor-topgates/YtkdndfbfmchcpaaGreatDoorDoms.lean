
import Derived.Laws.Bits64b
import Derived.Test.YtkdndfbfmchcpaaGreatDoorHeldS
import Derived.StillTailTactics
import Derived.Test.YtkdndfbfmchcpaaGreatDoorPls
import Derived.Lib.SliceRun
import Derived.OwnWalk
set_option maxRecDepth 1000000
set_option maxHeartbeats 8000000
namespace Go.Proofs.YtkdndfbfmchcpaaGreatDoor
variable {W a w w':World}{b d g h k n n0 p:Nat}{r s:Int}
open Go.RowKit
theorem Fi (k:Nat) (n:Int) (hk:k<=62) (m:Int) (hm:m=((2 ^ k-1:Nat):Int)):bits .and .i64 n m=n % ((2 ^ k:Nat):Int):=by
 have hle:2 ^ k<=2 ^ 62:=Nat.pow_le_pow_right (by decide) hk;have hpos:0<2 ^ k:=Nat.pow_pos (by decide)
 have h1:(BitVec.ofInt 64 m).toNat=2 ^ k-1:=by rw[hm,BitVec.ofInt_natCast,BitVec.toNat_ofNat];exact Nat.mod_eq_of_lt (by omega)
 have key:(BitVec.ofInt 64 n &&& BitVec.ofInt 64 m).toNat=(n % ((2 ^ 64:Nat):Int)).toNat % 2 ^ k:=by rw[BitVec.toNat_and,BitVec.toNat_ofInt,h1,Nat.and_two_pow_sub_one_eq_mod]
 have hlt:=Nat.mod_lt (n % ((2 ^ 64:Nat):Int)).toNat hpos;have hd:((2 ^ k:Nat):Int)∣((2 ^ 64:Nat):Int):=Int.ofNat_dvd.2 (Nat.pow_dvd_pow 2 (by omega))
 have e:(((n % ((2 ^ 64:Nat):Int)).toNat % 2 ^ k:Nat):Int)=n % ((2 ^ k:Nat):Int):=by rw[Int.natCast_emod,Int.toNat_of_nonneg (Int.emod_nonneg _ (by decide)),Int.emod_emod_of_dvd _ hd]
 show IntKind.i64.wrap ((BitVec.ofInt 64 n &&& BitVec.ofInt 64 m).toNat:Nat)=_;rw[key,IntKind.wrap_i64,<- e];omega
def oa1 (x:Int):Int:=IntKind.u64.wrap (bits .and .u64 (x / 2) 6148914691236517205+bits .and .u64 x 6148914691236517205)
def oa2 (x:Int):Int:=IntKind.u64.wrap (bits .and .u64 (x / 4) 3689348814741910323+bits .and .u64 x 3689348814741910323)
def oa3 (x:Int):Int:=bits .and .u64 (IntKind.u64.wrap (x / 16+x)) 1085102592571150095
def oa4 (x:Int):Int:=IntKind.u64.wrap (x+x / 256)
def oa5 (x:Int):Int:=IntKind.u64.wrap (x+x / 65536)
def oa6 (x:Int):Int:=IntKind.u64.wrap (x+x / 4294967296)
def oaz (x:Int):Int:=bits .and .i64 (wrap64 (oa6 (oa5 (oa4 (oa3 (oa2 (oa1 x))))))) 127
def pn1 (n:Nat):Nat:=((n / 2 &&& 6148914691236517205)+(n &&& 6148914691236517205)) % 18446744073709551616
def pn2 (n:Nat):Nat:=((n / 4 &&& 3689348814741910323)+(n &&& 3689348814741910323)) % 18446744073709551616
def pn3 (n:Nat):Nat:=((n / 16+n) % 18446744073709551616) &&& 1085102592571150095
def pn4 (n:Nat):Nat:=(n+n / 256) % 18446744073709551616
def pn5 (n:Nat):Nat:=(n+n / 65536) % 18446744073709551616
def pn6 (n:Nat):Nat:=(n+n / 4294967296) % 18446744073709551616
def pnz (n:Nat):Nat:=pn6 (pn5 (pn4 (pn3 (pn2 (pn1 n))))) % 128
theorem aD6 (n:Nat) (h:n<18446744073709551616):oa1 (n:Int)=(pn1 n:Int):=by
 unfold oa1 pn1;have e1:((n:Int) / 2)=((n / 2:Nat):Int):=by omega
 have e2:=bits_and_u64_nat (n / 2) 6148914691236517205 (by omega) (by decide);have e3:=bits_and_u64_nat n 6148914691236517205 h (by decide);rw[e1,show (6148914691236517205:Int)=((6148914691236517205:Nat):Int) from rfl,e2,e3,IntKind.wrap_u64];omega
theorem aD7 (n:Nat) (h:n<18446744073709551616):oa2 (n:Int)=(pn2 n:Int):=by
 unfold oa2 pn2;have e1:((n:Int) / 4)=((n / 4:Nat):Int):=by omega
 have e2:=bits_and_u64_nat (n / 4) 3689348814741910323 (by omega) (by decide);have e3:=bits_and_u64_nat n 3689348814741910323 h (by decide);rw[e1,show (3689348814741910323:Int)=((3689348814741910323:Nat):Int) from rfl,e2,e3,IntKind.wrap_u64];omega
theorem aD8 (n:Nat) (_h:n<18446744073709551616):oa3 (n:Int)=(pn3 n:Int):=by
 unfold oa3 pn3
 rw[IntKind.wrap_u64,show ((n:Int) / 16+n) % 18446744073709551616=(((n / 16+n) % 18446744073709551616:Nat):Int) from by omega,
  show (1085102592571150095:Int)=((1085102592571150095:Nat):Int) from rfl,bits_and_u64_nat _ _ (Nat.mod_lt _ (by decide)) (by decide)]
theorem aD9 (n:Nat):oa4 (n:Int)=(pn4 n:Int):=by unfold oa4 pn4;rw[IntKind.wrap_u64];omega
theorem aDA (n:Nat):oa5 (n:Int)=(pn5 n:Int):=by unfold oa5 pn5;rw[IntKind.wrap_u64];omega
theorem aDB (n:Nat):oa6 (n:Int)=(pn6 n:Int):=by unfold oa6 pn6;rw[IntKind.wrap_u64];omega
theorem Yo (n:Nat) (h:n<18446744073709551616):oaz (n:Int)=(pnz n:Int):=by
 unfold oaz pnz;rw[aD6 n h,aD7 (pn1 n) (Nat.mod_lt _ (by decide)),aD8 (pn2 (pn1 n)) (Nat.mod_lt _ (by decide)),aD9,aDA,aDB];generalize pn6 (pn5 (pn4 (pn3 (pn2 (pn1 n)))))=m;rw[Fi 7 _ (by decide) 127 rfl,wrap64];omega
def aDC (n:Nat):Bool:=n==1 || n==2 || n==4 || n==8 || n==16 || n==32 || n==64 || n==128 || n==256 || n==512 || n==1024 || n==2048 || n==4096 || n==8192 || n==16384 || n==32768 || n==65536
def aEU (n:Nat):Bool:=!(Nat.beq (pnz n) 1) || aDC n
def aBn:Nat->Nat->Bool
 | 0,b=>aEU b
 | k+1,b=>aBn k b && aBn k (b+2 ^ k)
theorem Hx:∀ (k b n:Nat),aBn k b=true->b<=n->n<b+2 ^ k->aEU n=true
 | 0,b,n,h,h1,h2=>by
  obtain rfl:n=b:=by simp at h2;omega
  exact h
 | k+1,b,n,h,h1,h2=>by
  rw[aBn,Bool.and_eq_true] at h;by_cases g:n<b+2 ^ k
  ·exact Hx k b n h.1 h1 g
  ·exact Hx k (b+2 ^ k) n h.2 (by omega) (by rw[Nat.pow_succ] at h2;omega)
theorem aDD:aBn 16 0=true:=by kernel_rfl
theorem aEV (n:Nat) (h:n<65536) (h1:pnz n=1):aDC n=true:=by
 have:=Hx 16 0 n aDD (Nat.zero_le _) (by omega);unfold aEU at this;rw[h1] at this;simpa using this
theorem aBo (h:aDC n=true):∃ k,k<=16/\n=2 ^ k:=by
 simp only[aDC,Bool.or_eq_true,beq_iff_eq] at h;rcases h with (((((((((((((((h | h) | h) | h) | h) | h) | h) | h) | h) | h) | h) | h) | h) | h) | h) | h) | h
 ·exact⟨0,by decide,h⟩
 ·exact⟨1,by decide,h⟩
 ·exact⟨2,by decide,h⟩
 ·exact⟨3,by decide,h⟩
 ·exact⟨4,by decide,h⟩
 ·exact⟨5,by decide,h⟩
 ·exact⟨6,by decide,h⟩
 ·exact⟨7,by decide,h⟩
 ·exact⟨8,by decide,h⟩
 ·exact⟨9,by decide,h⟩
 ·exact⟨10,by decide,h⟩
 ·exact⟨11,by decide,h⟩
 ·exact⟨12,by decide,h⟩
 ·exact⟨13,by decide,h⟩
 ·exact⟨14,by decide,h⟩
 ·exact⟨15,by decide,h⟩
 ·exact⟨16,by decide,h⟩
theorem Yp:∀ k:Fin 17,pnz (2 ^ k.val)=1:=by decide +kernel
theorem Eh (h:n<=65536):pnz n=1↔∃ k,k<=16/\n=2 ^ k:=by
 constructor
 ·intro h1;by_cases e:n=65536
  ·exact⟨16,by decide,e⟩
  ·exact aBo (aEV n (by omega) h1)
 ·rintro⟨k,hk,rfl⟩;exact Yp ⟨k,by omega⟩
theorem Vj (n:Nat) (w:World) (h1:n<=65536) :
  Calls Tryz.prog 98 #[.int .u64 n] w fun e w'=>e=.returned (.int .i64 (pnz n))/\w'=w:=by
 have HZ:=hid (Yo n (by omega));go_enter Tryz.func98,Tryz.ntmps98;go_wp2;go_ret;exact⟨xJ HZ.out,rfl⟩
theorem Fj (n:Nat) (w:World) (h1:n<=65536) :
  Calls Tryz.prog 50 #[.int .u64 n] w fun e w'=>e=.returned (.int .i64 (pnz n))/\w'=w:=by
 have H:=hid (Vj n w h1);go_enter Tryz.func50,Tryz.ntmps50;go_wp2_with fail;refine H.out.mono ?_;rintro e w1 ⟨rfl,rfl⟩;go_wp2_with fail;go_ret;exact⟨rfl,rfl⟩
def Vk (p:Nat) (n:Int):Prop:=∃ k:Nat,k<=16/\n=((2 ^ k:Nat):Int)/\(((p-1) % 2 ^ k:Nat)=0)
theorem Ki (h3:3<=p) (h:(p-1) % 2 ^ k=0):((p:Int)-1) % ((2 ^ k:Nat):Int)=0:=by
 rw[show (p:Int)-1=((p-1:Nat):Int) from by omega,<- Int.natCast_emod,h];rfl
theorem Yq (p b k:Nat) (w:World) (h3:3<=p) (hm:p<=2147483647) (hp:w.cell? ⟨b,0,none⟩=some (.int .i64 p)) (hk:k<=16) (hd:(p-1) % 2 ^ k=0) :
  Calls Tryz.prog 18 #[.pointer (some ⟨b,0,none⟩),.int .i64 ((2 ^ k:Nat):Int)] w fun e w'=>e=.returned (.bool true)/\w'=w:=by
 have hd2:(((p:Int)-1) % ((2 ^ k:Nat):Int)==0)=true:=by rw[Ki h3 hd];rfl
 have hlt:2 ^ k<=65536:=Nat.pow_le_pow_right (by decide:0<2) hk;have hpos:1<=2 ^ k:=Nat.pow_pos (by decide);have HO:=hid (Fj (2 ^ k) w hlt);rw[(Eh hlt).2 ⟨k,hk,rfl⟩] at HO;have HP:=hid (Ny p b w hp);clear hd;generalize 2 ^ k=n at *;go_enter Tryz.func18,Tryz.ntmps18;go_wp2_with fail;refine HO.out.mono ?_;rintro e w1 ⟨rfl,rfl⟩;go_wp2_with fail;refine HP.out.mono ?_;rintro e w1 ⟨rfl,rfl⟩;go_wp2_with fail;go_ret;exact⟨rfl,rfl⟩
theorem aEW (p b:Nat) (n:Int) (w:World) (h3:3<=p) (hm:p<=2147483647) (hp:w.cell? ⟨b,0,none⟩=some (.int .i64 p)) (hno:¬ Vk p n) (hn1:-9223372036854775808<=n) (hn2:n<=9223372036854775807) :
  Calls Tryz.prog 18 #[.pointer (some ⟨b,0,none⟩),.int .i64 n] w fun e w'=>e=.returned (.bool false)/\w'=w:=by
 by_cases h1:n<1
 ·have h1b:¬ 1<=n:=by omega
  clear hno;go_enter Tryz.func18,Tryz.ntmps18;go_wp2_with fail;go_ret;exact⟨rfl,rfl⟩
 ·by_cases h2:65536<n
  ·have h2b:¬ n<=65536:=by omega
   clear hno;go_enter Tryz.func18,Tryz.ntmps18;go_wp2_with fail;go_ret;exact⟨rfl,rfl⟩
  ·obtain⟨m,rfl⟩:=Int.eq_ofNat_of_zero_le (show 0<=n by omega);have HO:=hid (Fj m w (by omega));have HP:=hid (Ny p b w hp);by_cases ho:pnz m=1
   ·obtain⟨k,hk,rfl⟩:=(Eh (by omega)).1 ho;have hd:¬ (p-1) % 2 ^ k=0:=fun h=>hno ⟨k,hk,rfl,h⟩
    have hd2:(((p:Int)-1) % ((2 ^ k:Nat):Int)==0)=false:=by rw[beq_eq_false_iff_ne];intro h;rw[show (p:Int)-1=((p-1:Nat):Int) from by omega,<- Int.natCast_emod] at h;omega
    rw[ho] at HO;clear hno hd ho;generalize 2 ^ k=n at *;go_enter Tryz.func18,Tryz.ntmps18;go_wp2_with fail;refine HO.out.mono ?_;rintro e w1 ⟨rfl,rfl⟩;go_wp2_with fail;refine HP.out.mono ?_;rintro e w1 ⟨rfl,rfl⟩;go_wp2_with fail;go_ret;exact⟨rfl,rfl⟩
   ·have hb:((pnz m:Int)==1)=false:=by rw[beq_eq_false_iff_ne];omega
    clear hno ho;generalize pnz m=c at *;go_enter Tryz.func18,Tryz.ntmps18;go_wp2_with fail;refine HO.out.mono ?_;rintro e w1 ⟨rfl,rfl⟩;go_wp2_with fail;go_ret;exact⟨rfl,rfl⟩
structure DomAt (w:World) (d b:Nat) (n r s:Int):Prop where
 f:w.cell? ⟨d,0,none⟩=some (.pointer (some ⟨b,0,none⟩))
 n:w.cell? ⟨d,1,none⟩=some (.int .i64 n)
 r:w.cell? ⟨d,2,none⟩=some (.int .i64 r)
 s:w.cell? ⟨d,3,none⟩=some (.int .i64 s)
theorem DomAt.lt{n:Int} (h:DomAt w d b n r s):d<w.heap.size:=by
 rcases Nat.lt_or_ge d w.heap.size with g | g
 ·exact g
 ·have:=h.f;simp[World.cell?,Array.getElem?_eq_none g] at this
theorem DomAt.below{n:Int} (h:DomAt w d b n r s) (e:Below n0 w w') (hd:d<n0):DomAt w' d b n r s :=
 ⟨(e.cell (p:=⟨d,0,none⟩) hd).trans h.f,(e.cell (p:=⟨d,1,none⟩) hd).trans h.n,(e.cell (p:=⟨d,2,none⟩) hd).trans h.r,(e.cell (p:=⟨d,3,none⟩) hd).trans h.s⟩
theorem aAv (p b:Nat) (n s:Int) (w:World) (h3:3<=p) (hm:p<=2147483647) (hp:w.cell? ⟨b,0,none⟩=some (.int .i64 p)) (hno:¬ Vk p n) (hn1:-9223372036854775808<=n) (hn2:n<=9223372036854775807) :
  Calls Tryz.prog 7 #[.pointer (some ⟨b,0,none⟩),.int .i64 n,.int .i64 s] w fun e w'=>e=.returned (.tuple #[.pointer none,.iface 72 (.int .i64 2)])/\w'=w:=by
 have HM:=hid (aEW p b n w h3 hm hp hno hn1 hn2);clear hno;go_enter Tryz.func7,Tryz.ntmps7;go_wp2_with fail;refine HM.out.mono ?_;rintro e w1 ⟨rfl,rfl⟩;go_wp2_with fail;go_ret2;exact⟨rfl,rfl⟩
theorem Vl (p b k:Nat) (s:Int) (w:World) (h3:3<=p) (hm:p<=2147483647) (hp:w.cell? ⟨b,0,none⟩=some (.int .i64 p)) (hk:k<=16) (hd:(p-1) % 2 ^ k=0)
  (hs1:-9223372036854775808<=s) (hs2:s<=9223372036854775807) (hs:s % (p:Int)=0) :
  Calls Tryz.prog 7 #[.pointer (some ⟨b,0,none⟩),.int .i64 ((2 ^ k:Nat):Int),.int .i64 s] w fun e w'=>e=.returned (.tuple #[.pointer none,.iface 72 (.int .i64 3)])/\w'=w:=by
 have HM:=hid (Yq p b k w h3 hm hp hk hd);have HO:=hid (zZ p b s w h3 hm hp hs1 hs2);rw[hs] at HO;clear hd hs;generalize 2 ^ k=n at *;go_enter Tryz.func7,Tryz.ntmps7;go_wp2_with fail;refine HM.out.mono ?_;rintro e w1 ⟨rfl,rfl⟩;go_wp2_with fail;refine HO.out.mono ?_;rintro e w1 ⟨rfl,rfl⟩;go_wp2_with fail;go_ret2;exact⟨rfl,rfl⟩
theorem Yr (p b k:Nat) (s:Int) (w:World) (hpr:Num.Prime p) (h3:3<=p) (hm:p<=2147483647) (hp:w.cell? ⟨b,0,none⟩=some (.int .i64 p)) (hk:k<=16) (hd:(p-1) % 2 ^ k=0)
  (hs1:-9223372036854775808<=s) (hs2:s<=9223372036854775807) (hs:¬ s % (p:Int)=0) :
  Calls Tryz.prog 7 #[.pointer (some ⟨b,0,none⟩),.int .i64 ((2 ^ k:Nat):Int),.int .i64 s] w fun e w' =>
   ∃ (d r:Nat),e=.returned (.tuple #[.pointer (some ⟨d,0,none⟩),.nilIface])/\w.heap.size<=d/\Kp p ((2 ^ k:Nat):Int) r/\DomAt w' d b ((2 ^ k:Nat):Int) r (s % (p:Int))/\Below w.heap.size w w':=by
 have hbl:b<w.heap.size:=by
  rcases Nat.lt_or_ge b w.heap.size with g | g
  ·exact g
  ·simp[World.cell?,Array.getElem?_eq_none g] at hp
 have hlt:2 ^ k<=65536:=Nat.pow_le_pow_right (by decide:0<2) hk;have HM:=hid (Yq p b k w h3 hm hp hk hd);have HO:Hid (∀ w1:World,w1.cell? ⟨b,0,none⟩=some (.int .i64 p)->Calls Tryz.prog 19 #[.pointer (some ⟨b,0,none⟩),.int .i64 s] w1 fun e w'=>e=.returned (.int .i64 (s % p))/\w'=w1):=fun w1 h=>zZ p b s w1 h3 hm h hs1 hs2
 have HR:Hid (∀ w1:World,w1.cell? ⟨b,0,none⟩=some (.int .i64 p)->b<w1.heap.size->Calls Tryz.prog 20 #[.pointer (some ⟨b,0,none⟩),.int .i64 ((2 ^ k:Nat):Int)] w1 fun e w'=>∃ r:Nat,e=.returned (.int .i64 r)/\Kp p ((2 ^ k:Nat):Int) r/\Below w1.heap.size w1 w') :=
  fun w1 h hb=>aBv p b _ w1 hpr h3 hm h hb (by omega) (by omega)
 have hsb:(s % (p:Int)==0)=false:=by rw[beq_eq_false_iff_ne];exact hs
 clear hd hs;generalize 2 ^ k=n at *;generalize s % (p:Int)=t at *;go_enter Tryz.func7,Tryz.ntmps7;go_wp2_with fail;refine HM.out.mono ?_;rintro e w1 ⟨rfl,rfl⟩;go_wp2_with fail;refine (HO.out _ hp).mono ?_;rintro e w1 ⟨rfl,rfl⟩;go_wp2_with fail;refine (HR.out _ hp hbl).mono ?_;rintro e w2 ⟨r,rfl,hg,hbel⟩;have hp1:=(hbel.cell (p:=⟨b,0,none⟩) hbl).trans hp;have HG:=hid hg;have HB:=hid hbel;have hsz:=hbel.size;clear hg hbel;go_wp2_with fail;refine (HO.out _ hp1).mono ?_;rintro e w3 ⟨rfl,rfl⟩;go_wp2_with fail;go_ret2;exact⟨_,r,rfl,by simpa using hsz,HG.out,⟨by simp,by simp,by simp,by simp⟩,(HB.out.alloc hsz _)⟩
theorem Fk (d b:Nat) (n r s:Int) (w:World) (h:DomAt w d b n r s) :
  Calls Tryz.prog 73 #[.pointer (some ⟨d,0,none⟩)] w fun e w'=>e=.returned (.int .i64 n)/\w'=w:=by
 obtain⟨c0,c1,c2,c3⟩:=h;go_enter Tryz.func73,Tryz.ntmps73;go_wp2_with fail;go_ret;exact⟨rfl,rfl⟩
theorem Vm (d b:Nat) (n r s:Int) (w:World) (h:DomAt w d b n r s) :
  Calls Tryz.prog 79 #[.pointer (some ⟨d,0,none⟩)] w fun e w'=>e=.returned (.pointer (some ⟨b,0,none⟩))/\w'=w:=by
 obtain⟨c0,c1,c2,c3⟩:=h;go_enter Tryz.func79,Tryz.ntmps79;go_wp2_with fail;go_ret;exact⟨rfl,rfl⟩
theorem aAw (p b d k:Nat) (r s i:Int) (w:World) (hpr:Num.Prime p) (h3:3<=p) (hm:p<=2147483647) (hp:w.cell? ⟨b,0,none⟩=some (.int .i64 p)) (hd:DomAt w d b ((2 ^ k:Nat):Int) r s)
  (hk:k<=16) (hr0:0<=r) (hr1:r<p) (hs0:0<=s) (hs1:s<p) :
  Calls Tryz.prog 92 #[.pointer (some ⟨d,0,none⟩),.int .i64 i] w fun e w'=>e=.returned (.int .i64 (Dom.pt p s r (i % ((2 ^ k:Nat):Int)).toNat))/\w'=w.drew:=by
 have hmx:Tryz.prog.follows .mixedOrders=true:=by kernel_rfl
 have hle:2 ^ k<=65536:=Nat.pow_le_pow_right (by decide:0<2) hk;have hpos:1<=2 ^ k:=Nat.pow_pos (by decide);obtain⟨c0,c1,c2,c3⟩:=hd;have ha:=Fi k i (by omega) (((2 ^ k:Nat):Int)-1) (by omega);have ht0:0<=i % ((2 ^ k:Nat):Int):=Int.emod_nonneg _ (by omega);have ht1:i % ((2 ^ k:Nat):Int)<((2 ^ k:Nat):Int):=Int.emod_lt_of_pos _ (by omega);obtain⟨t,ht⟩:=Int.eq_ofNat_of_zero_le ht0;rw[ht] at ha ht1 ⊢;rw[Int.toNat_natCast]
 have HP:Hid (∀ w1:World,w1.cell? ⟨b,0,none⟩=some (.int .i64 p)->Calls Tryz.prog 52 #[.pointer (some ⟨b,0,none⟩),.int .i64 r,.int .i64 (t:Int)] w1 fun e w'=>e=.returned (.int .i64 (r ^ t % (p:Int)))/\w'=w1):=fun w1 h=>by
  have:=Ei p b r (t:Int) w1 h3 hm h (by omega) (by omega) (by omega) (by omega)
  rwa [Cw p t r hpr h3,Num.pwm_cast,show ((el p r:Nat):Int)=r from by rw[Jr p r h3];exact Int.emod_eq_of_lt hr0 hr1] at this
 obtain⟨pb0,pb1⟩:=qQ (r ^ t) p h3
 have HM:Hid (∀ w1:World,w1.cell? ⟨b,0,none⟩=some (.int .i64 p)->Calls Tryz.prog 78 #[.pointer (some ⟨b,0,none⟩),.int .i64 s,.int .i64 (r ^ t % (p:Int))] w1 fun e w'=>e=.returned (.int .i64 (Dom.pt p s r t))/\w'=w1):=fun w1 h=>by rw[<- Dom.pt_mul];exact kK p b _ _ w1 h3 hm h (by omega) (by omega) (by omega) (by omega)
 have hw:IntKind.i64.wrap (((2 ^ k:Nat):Int)-1)=((2 ^ k:Nat):Int)-1:=by rw[IntKind.wrap_i64];omega
 generalize r ^ t % (p:Int)=y at *;generalize Dom.pt p s r t=z at *;clear ht ht0 hpr hle hpos;generalize ((2 ^ k:Nat):Int)=n at *;go_enter Tryz.func92,Tryz.ntmps92;go_wp2_with fail;refine wp_region_still_lit hmx (by kernel_rfl) ?_
 repeat still_step
 still_call (HP.out _ hp)
 repeat still_step
 still_call (HM.out _ hp)
 repeat still_step
 refine wpStill_nil ?_;go_wp2_with fail;go_ret;exact⟨rfl,rfl⟩
structure Pair (g h:Nat) (w w':World):Prop where
 os:w'.os=w.os
 tape:w'.tape=w.tape
 output:w'.output=w.output
 size:w.heap.size<=w'.heap.size
 block:∀ k,k<w.heap.size->k≠g->k≠h->w'.heap[k]?=w.heap[k]?
theorem Pair.refl (g h:Nat) (w:World):Pair g h w w:=⟨rfl,rfl,rfl,Nat.le_refl _,fun _ _ _ _=>rfl⟩
theorem Pair.trans{b c:World} (x:Pair g h a b) (y:Pair g h b c):Pair g h a c :=
 ⟨y.os.trans x.os,y.tape.trans x.tape,y.output.trans x.output,Nat.le_trans x.size y.size,fun i h0 h1 h2=>(y.block i (Nat.lt_of_lt_of_le h0 x.size) h1 h2).trans (x.block i h0 h1 h2)⟩
theorem Pair.symm{b:World} (x:Pair g h a b):Pair h g a b:=⟨x.os,x.tape,x.output,x.size,fun i h0 h1 h2=>x.block i h0 h2 h1⟩
theorem Pair.drewN (x:Pair g h a w) (n:Nat):Pair g h a (w.drewN n):=x.trans ⟨rfl,rfl,rfl,Nat.le_refl _,fun _ _ _ _=>rfl⟩
theorem Pair.drew (x:Pair g h a w):Pair g h a w.drew:=x.trans ⟨rfl,rfl,rfl,Nat.le_refl _,fun _ _ _ _=>rfl⟩
theorem Pair.drew2 (x:Pair g h a.drew w):Pair g h a w:=⟨x.os,x.tape,x.output,x.size,x.block⟩
theorem Pair.setCell (x:Pair g h a w) {p:Addr} (hp:p.block=g∨p.block=h) (u:Value):Pair g h a (w.setCell p u) :=
 x.trans ⟨rfl,rfl,rfl,by simp[World.setCell],fun k _ h1 h2=>Below.heap_setCell _ _ _ _ (by rcases hp with e | e <;> omega)⟩
theorem Pair.cell (x:Pair g h w w') {p:Addr} (h0:p.block<w.heap.size) (h1:p.block≠g) (h2:p.block≠h):w'.cell? p=w.cell? p:=World.cell?_of_block (w:=w) (x.block p.block h0 h1 h2)
theorem Pair.alloc (x:Pair g h a w) (o:Obj):Pair g h a (w.alloc o) :=
 x.trans ⟨rfl,rfl,rfl,by simp,fun k h0 _ _=>Go.Deep.blk_alloc_lt _ _ _ h0⟩
theorem Pair.below (x:Pair g h w w') (h0:n0<=w.heap.size) (hg:n0<=g) (hh:n0<=h):Below n0 w w' :=
 ⟨x.os,x.tape,x.output,x.size,fun k hk=>x.block k (by omega) (by omega) (by omega)⟩
def Do (p b n:Nat):Prop :=
 ∀ (a1 a2 r:Int) (g h o q N1 N2 c1 c2:Nat) (F G:Nat->Value) (f:Nat->Int) (w:World),w.cell? ⟨b,0,none⟩=some (.int .i64 p)->b≠g->b≠h->g≠h ->
  w.rowIs g 3 N1 F->w.rowIs h 3 N2 G->o+n<=N1->q+n<=N2->n<=c1->n<=c2->0<=r->r<p->Dom.Ord p r n ->
  (∀ j,j<n->F (o+j)=.int .i64 (f j))->(∀ j,j<n->-9223372036854775808<=f j/\f j<=9223372036854775807) ->
  Calls Tryz.prog 131 #[.agg #[.pointer (some ⟨b,0,none⟩),.int .i64 a1,.int .i64 a2],.slice (some ⟨g,o,none⟩) n c1,.slice (some ⟨h,q,none⟩) n c2,.int .i64 r] w fun e w' =>
   e=.returned (.tuple #[])/\Pair g h w w'/\∃ F' G',w'.rowIs g 3 N1 F'/\w'.rowIs h 3 N2 G' /\
    (∀ j,j<n->F' (o+j)=.int .i64 (Dom.ft p f r n j))/\(∀ j,j<o∨o+n<=j->F' j=F j)/\(∀ j,j<q∨q+n<=j->G' j=G j)
theorem Vn (p b:Nat):Do p b 1:=by
 intro a1 a2 r g h o q N1 N2 c1 c2 F G f w hp hbg hbh hgh hF hG ho hq hc1 hc2 hr0 hr1 hord hf hfit;have HF:=hid hF;have HG:=hid hG;have HV:=hid hf;clear hF hG hf hfit hord;go_enter Tryz.func131,Tryz.ntmps131;go_wp2_with fail;refine bodyPost_ret (results_none rfl _ _ _) rfl ?_;exact⟨rfl,(Pair.refl _ _ _).alloc _,F,G,HF.out.alloc _,HG.out.alloc _,fun j hj=>by rw[HV.out j hj,Dom.ft_one],fun _ _=>rfl,fun _ _=>rfl⟩
theorem Ys (h3:3<=p) (hm:p<=2147483647) {f:Nat->Int} {r:Int} {n:Nat} (h:∀ j,j<n->-9223372036854775808<=f j/\f j<=9223372036854775807) :
  ∀ j,j<n->-9223372036854775808<=Dom.ft p f r n j/\Dom.ft p f r n j<=9223372036854775807:=fun j hj=>by
 by_cases e:n=1
 ·subst e;rw[Dom.ft_one];exact h j hj
 ·have:=Dom.ft_bounds (p:=p) (by omega) f r e j;omega
def up2 (F:Nat->Value) (i:Nat) (x:Value) (j:Nat) (y:Value):Nat->Value:=fun t=>if t=j then y else if t=i then x else F t
theorem Nv{N:Nat}{t:TypeId}{F:Nat->Value} (h:w.rowIs g t N F) (i j:Nat) (x y:Value):((w.setCell ⟨g,i,none⟩ x).setCell ⟨g,j,none⟩ y).rowIs g t N (up2 F i x j y) :=
 ((h.set i x).set j y).congr (fun _ _=>rfl)
theorem Rr (p b m:Nat) (hpr:Num.Prime p) (h3:3<=p) (hm:p<=2147483647) (h0:0<m) (hmm:m<=65536) (ih:Do p b m):Do p b (2*m):=by
 intro a1 a2 r g h o q N1 N2 c1 c2 F G f w hp hbg hbh hgh hF hG ho hq hc1 hc2 hr0 hr1 hord hf hfit;have hgl:=hF.lt;have hhl:=hG.lt
 have hbl:b<w.heap.size:=by
  rcases Nat.lt_or_ge b w.heap.size with g | g
  ·exact g
  ·simp[World.cell?,Array.getElem?_eq_none g] at hp
 have HF:=hid hF;have HG:=hid hG;have HV:=hid hf;have HFT:=hid hfit;have HO:=hid hord;have HI:=hid ih;have e1:((2*m:Nat):Int) / 2=(m:Int):=by omega
 have e2:((m:Int)==0)=false:=by rw[beq_eq_false_iff_ne];omega
 have e3:2*m-m=m:=by omega
 have sl1:m<=c1:=by omega
 have sl2:(m:Int)<=2*(m:Int):=by omega
 have sl3:¬ c1=m:=by omega
 have hmx:Tryz.prog.follows .mixedOrders=true:=by kernel_rfl
 clear hF hG hf hfit hord ih;go_enter Tryz.func131,Tryz.ntmps131;go_wp2_with fail;go_quiet (fail)
 go_wp2_with fail;have HF0:Hid (((w.alloc (.cells #[.pointer (some ⟨b,0,none⟩),.int .i64 a1,.int .i64 a2] 75)).drewN nq).rowIs g 3 N1 F):=HF.out.alloc _;have HG0:Hid (((w.alloc (.cells #[.pointer (some ⟨b,0,none⟩),.int .i64 a1,.int .i64 a2] 75)).drewN nq).rowIs h 3 N2 G):=HG.out.alloc _;have HP0:Hid (Pair g h w ((w.alloc (.cells #[.pointer (some ⟨b,0,none⟩),.int .i64 a1,.int .i64 a2] 75)).drewN nq)):=((Pair.refl _ _ _).alloc _).drewN _
 have HC0:Hid (((w.alloc (.cells #[.pointer (some ⟨b,0,none⟩),.int .i64 a1,.int .i64 a2] 75)).drewN nq).cell? ⟨w.heap.size,0,none⟩=some (.pointer (some ⟨b,0,none⟩))):=by show (w.alloc (.cells #[.pointer (some ⟨b,0,none⟩),.int .i64 a1,.int .i64 a2] 75)).cell? ⟨w.heap.size,0,none⟩=_;simp
 have HC1:Hid (((w.alloc (.cells #[.pointer (some ⟨b,0,none⟩),.int .i64 a1,.int .i64 a2] 75)).drewN nq).cell? ⟨w.heap.size,1,none⟩=some (.int .i64 a1)):=by show (w.alloc (.cells #[.pointer (some ⟨b,0,none⟩),.int .i64 a1,.int .i64 a2] 75)).cell? ⟨w.heap.size,1,none⟩=_;simp
 have HC2:Hid (((w.alloc (.cells #[.pointer (some ⟨b,0,none⟩),.int .i64 a1,.int .i64 a2] 75)).drewN nq).cell? ⟨w.heap.size,2,none⟩=some (.int .i64 a2)):=by show (w.alloc (.cells #[.pointer (some ⟨b,0,none⟩),.int .i64 a1,.int .i64 a2] 75)).cell? ⟨w.heap.size,2,none⟩=_;simp
 have hs0:w.heap.size<((w.alloc (.cells #[.pointer (some ⟨b,0,none⟩),.int .i64 a1,.int .i64 a2] 75)).drewN nq).heap.size:=by show _<(w.alloc (.cells #[.pointer (some ⟨b,0,none⟩),.int .i64 a1,.int .i64 a2] 75)).heap.size;simp
 generalize (w.alloc (.cells #[.pointer (some ⟨b,0,none⟩),.int .i64 a1,.int .i64 a2] 75)).drewN nq=W0 at *
 go_loopw [28] (fun iv wr=>∃ (k:Nat) (G':Nat->Value),k<=m/\iv=.int .i64 k/\Hid (wr.rowIs g 3 N1 F)/\Hid (wr.rowIs h 3 N2 G')/\Hid (∀ j,j<k->G' (q+j)=.int .i64 (f (2*j)))/\Hid (∀ j,j<k->G' (q+m+j)=.int .i64 (f (2*j+1)))
   /\ Hid (∀ j,j<q∨q+2*m<=j->G' j=G j)/\Hid (Pair g h W0 wr))
  (fun iv _=>m-(intOf iv).toNat)
 case atStart=>exact⟨0,G,Nat.zero_le _,rfl,HF0,HG0,fun j hj=>by omega,fun j hj=>by omega,fun _ _=>rfl,Pair.refl _ _ _⟩
 case round =>
  obtain⟨k,G',hk,rfl,hF1,hG1,hev,hod,hout,hpair⟩:=hrel;by_cases hlt:k<m
  ·have hlt2:(k:Int)<(m:Int):=by omega
   have i1:(2*(k:Int)).toNat=2*k:=by omega
   have i2:(2*(k:Int)+1).toNat=2*k+1:=by omega
   have b1:2*(k:Int)<((2*m:Nat):Int):=by omega
   have b2:2*(k:Int)+1<((2*m:Nat):Int):=by omega
   have r1:=hF1.out.cell (i:=o+2*k) (by omega);rw[HV.out (2*k) (by omega)] at r1;have r2:=hF1.out.cell (i:=o+(2*k+1)) (by omega);rw[HV.out (2*k+1) (by omega)] at r2;have s1:=hG1.out.cell (i:=q+k) (by omega);have s2:=hG1.out.cell (i:=q+m+k) (by omega);have t1:=hG1.out.frozen (q+k);have t2:=hG1.out.frozen (q+m+k);have hne:¬ q+m+k=q+k:=by omega
   have HN:=hid (Nv hG1.out (q+k) (q+m+k) (.int .i64 (f (2*k))) (.int .i64 (f (2*k+1))))
   have HEV:Hid (∀ j,j<k+1->up2 G' (q+k) (.int .i64 (f (2*k))) (q+m+k) (.int .i64 (f (2*k+1))) (q+j)=.int .i64 (f (2*j))):=fun j hj=>by
    unfold up2;rw[if_neg (by omega)];by_cases e:j=k
    ·rw[if_pos (by omega),e]
    ·rw[if_neg (by omega)];exact hev.out j (by omega)
   have HOD:Hid (∀ j,j<k+1->up2 G' (q+k) (.int .i64 (f (2*k))) (q+m+k) (.int .i64 (f (2*k+1))) (q+m+j)=.int .i64 (f (2*j+1))):=fun j hj=>by
    unfold up2;by_cases e:j=k
    ·rw[if_pos (by omega),e]
    ·rw[if_neg (by omega),if_neg (by omega)];exact hod.out j (by omega)
   have HOU:Hid (∀ j,j<q∨q+2*m<=j->up2 G' (q+k) (.int .i64 (f (2*k))) (q+m+k) (.int .i64 (f (2*k+1))) j=G j):=fun j hj=>by unfold up2;rw[if_neg (by omega),if_neg (by omega)];exact hout.out j hj
   have HPA:Hid (Pair g h W0 ((wr.setCell ⟨h,q+k,none⟩ (.int .i64 (f (2*k)))).setCell ⟨h,q+m+k,none⟩ (.int .i64 (f (2*k+1))))):=(hpair.out.setCell (.inr rfl) _).setCell (.inr rfl) _;have HFN:Hid (((wr.setCell ⟨h,q+k,none⟩ (.int .i64 (f (2*k)))).setCell ⟨h,q+m+k,none⟩ (.int .i64 (f (2*k+1)))).rowIs g 3 N1 F):=(hF1.out.setOther (a:=⟨h,q+k,none⟩) hgh _).setOther (a:=⟨h,q+m+k,none⟩) hgh _;generalize f (2*k)=x at *;generalize f (2*k+1)=y at *;generalize G' (q+k)=u at *;generalize G' (q+m+k)=v at *;clear hF1 hG1 hpair hev hod hout;go_wp2_with fail
   go_region
   all_goals
    go_wp2_with fail;go_roundw
    case rel=>exact⟨k+1,_,by omega,by go_num,HFN.out.drew,HN.out.drew,HEV,HOD,HOU,HPA.out.drew⟩
    case measure=>simp[intOf];omega
  ·have hlt2:¬ (k:Int)<(m:Int):=by omega
   have hp0:=(HP0.out.cell (p:=⟨b,0,none⟩) hbl hbg hbh).trans hp;have hpc:=(hpair.out.cell (p:=⟨b,0,none⟩) (Nat.lt_trans hbl hs0) hbg hbh).trans hp0;have n1:w.heap.size≠g:=by omega
   have n2:w.heap.size≠h:=by omega
   have cc0:=(hpair.out.cell (p:=⟨w.heap.size,0,none⟩) hs0 n1 n2).trans HC0.out;have cc1:=(hpair.out.cell (p:=⟨w.heap.size,1,none⟩) hs0 n1 n2).trans HC1.out;have cc2:=(hpair.out.cell (p:=⟨w.heap.size,2,none⟩) hs0 n1 n2).trans HC2.out;have hsq:=qQ (r*r) p h3;have HORD:=hid HO.out.sqm;have HM:=hid (kK p b r r wr h3 hm hpc (by omega) (by omega) (by omega) (by omega))
   have HS1:Hid (∀ w1:World,w1.cell? ⟨b,0,none⟩=some (.int .i64 p)->w1.rowIs h 3 N2 G'->w1.rowIs g 3 N1 F ->
     Calls Tryz.prog 131 #[.agg #[.pointer (some ⟨b,0,none⟩),.int .i64 a1,.int .i64 a2],.slice (some ⟨h,q,none⟩) m c2,.slice (some ⟨g,o,none⟩) m c1,.int .i64 (r*r % (p:Int))] w1 fun e w' =>
      e=.returned (.tuple #[])/\Pair h g w1 w'/\∃ G1 F1,w'.rowIs h 3 N2 G1/\w'.rowIs g 3 N1 F1 /\
       (∀ j,j<m->G1 (q+j)=.int .i64 (Dom.ft p (Dom.ev f) (r*r % (p:Int)) m j))/\(∀ j,j<q∨q+m<=j->G1 j=G' j)/\(∀ j,j<o∨o+m<=j->F1 j=F j)) :=
    fun w1 z1 z2 z3=>HI.out a1 a2 (r*r % (p:Int)) h g q o N2 N1 c2 c1 G' F (Dom.ev f) w1 z1 hbh hbg hgh.symm z2 z3 (by omega) (by omega) (by omega) (by omega) hsq.1 hsq.2 HORD.out
     (fun j hj=>hev.out j (by omega)) (fun j hj=>HFT.out (2*j) (by omega))
   have HFX:Hid (∀ j,j<m->-9223372036854775808<=Dom.ft p (Dom.ev f) (r*r % (p:Int)) m j/\Dom.ft p (Dom.ev f) (r*r % (p:Int)) m j<=9223372036854775807):=Ys h3 hm (fun j hj=>HFT.out (2*j) (by omega));have HFY:Hid (∀ j,j<m->-9223372036854775808<=Dom.ft p (Dom.od f) (r*r % (p:Int)) m j/\Dom.ft p (Dom.od f) (r*r % (p:Int)) m j<=9223372036854775807):=Ys h3 hm (fun j hj=>HFT.out (2*j+1) (by omega));have HLOW:Hid (∀ j,j<m->(Dom.ft p (Dom.ev f) (r*r % (p:Int)) m j+(r ^ j % (p:Int))*Dom.ft p (Dom.od f) (r*r % (p:Int)) m j % (p:Int)) % (p:Int)=Dom.ft p f r (2*m) j):=fun j hj=>Dom.ft_low (by omega) f r hj;have HHIGH:Hid (∀ j,j<m->(Dom.ft p (Dom.ev f) (r*r % (p:Int)) m j-(r ^ j % (p:Int))*Dom.ft p (Dom.od f) (r*r % (p:Int)) m j % (p:Int)) % (p:Int)=Dom.ft p f r (2*m) (m+j)):=fun j hj=>Dom.ft_high hpr f HO.out hj
   have HS2:Hid (∀ (G1 F1:Nat->Value) (w1:World),w1.cell? ⟨b,0,none⟩=some (.int .i64 p)->w1.rowIs h 3 N2 G1->w1.rowIs g 3 N1 F1->(∀ j,j<m->G1 (q+m+j)=.int .i64 (Dom.od f j)) ->
     Calls Tryz.prog 131 #[.agg #[.pointer (some ⟨b,0,none⟩),.int .i64 a1,.int .i64 a2],.slice (some ⟨h,q+m,none⟩) m (c2-m),.slice (some ⟨g,o+m,none⟩) m (c1-m),.int .i64 (r*r % (p:Int))] w1 fun e w' =>
      e=.returned (.tuple #[])/\Pair h g w1 w'/\∃ F' G',w'.rowIs h 3 N2 F'/\w'.rowIs g 3 N1 G' /\
       (∀ j,j<m->F' (q+m+j)=.int .i64 (Dom.ft p (Dom.od f) (r*r % (p:Int)) m j))/\(∀ j,j<q+m∨q+m+m<=j->F' j=G1 j)/\(∀ j,j<o+m∨o+m+m<=j->G' j=F1 j)) :=
    fun G1 F1 w1 z1 z2 z3 z4=>HI.out a1 a2 (r*r % (p:Int)) h g (q+m) (o+m) N2 N1 (c2-m) (c1-m) G1 F1 (Dom.od f) w1 z1 hbh hbg hgh.symm z2 z3 (by omega) (by omega) (by omega) (by omega) hsq.1 hsq.2 HORD.out z4 (fun j hj=>HFT.out (2*j+1) (by omega))
   have HODD:Hid (∀ j,j<m->G' (q+m+j)=.int .i64 (Dom.od f j)):=fun j hj=>hod.out j (by omega);have HOUT:=hout;have HPR:=hpair;have HG1:=hG1;have HF1:=hF1;clear hF1 hG1 hev hod hout hpair HI HF HG;generalize r*r % (p:Int)=sq at *;go_wp2_with fail;refine HM.out.mono ?_;rintro e w1 ⟨rfl,rfl⟩;have hs1:=HPR.out.size;go_wp2_with fail;go_still_tail 6,hmx
   go_wp2_with fail;refine (HS1.out _ ?_ ?_ ?_).mono ?_
   ·exact hpc
   ·exact HG1.out
   ·exact HF1.out
   rintro e w2 ⟨rfl,hpa,G1,F1,hg1,hf1,hv1,ho1,ho2⟩;have HPA1:=hid hpa;have HG2:=hid hg1;have HF2:=hid hf1;have HV1:=hid hv1;have HO1:=hid ho1;have HO2:=hid ho2;have hpc2:=(hpa.cell (p:=⟨b,0,none⟩) (by show b<w1.heap.size;omega) hbh hbg).trans hpc;have cd0:=(hpa.cell (p:=⟨w.heap.size,0,none⟩) (by show w.heap.size<w1.heap.size;omega) n2 n1).trans cc0;have cd1:=(hpa.cell (p:=⟨w.heap.size,1,none⟩) (by show w.heap.size<w1.heap.size;omega) n2 n1).trans cc1;have cd2:=(hpa.cell (p:=⟨w.heap.size,2,none⟩) (by show w.heap.size<w1.heap.size;omega) n2 n1).trans cc2;have HOD1:Hid (∀ j,j<m->G1 (q+m+j)=.int .i64 (Dom.od f j)):=fun j hj=>(ho1 (q+m+j) (by omega)).trans (HODD.out j hj);have hs2:w1.heap.size<=w2.heap.size:=hpa.size;clear hpa hg1 hf1 hv1 ho1 ho2;go_wp2_with fail;go_still_tail 6,hmx
   go_wp2_with fail;refine (HS2.out G1 F1 _ ?_ ?_ ?_ HOD1.out).mono ?_
   ·exact hpc2
   ·exact HG2.out
   ·exact HF2.out
   rintro e w3 ⟨rfl,hpa,G2,F2,hg1,hf1,hv1,ho1,ho2⟩;have hs3:w2.heap.size<=w3.heap.size:=hpa.size;have hpc3:=(hpa.cell (p:=⟨b,0,none⟩) (by show b<w2.heap.size;omega) hbh hbg).trans hpc2;have ce0:=(hpa.cell (p:=⟨w.heap.size,0,none⟩) (by show w.heap.size<w2.heap.size;omega) n2 n1).trans cd0;have HPA2:Hid (Pair g h w w3):=(HP0.out.trans HPR.out).trans ((HPA1.out.symm.drew2).trans hpa.symm.drew2);have HG3:=hid hg1;have HF3:=hid hf1;have HX:Hid (∀ j,j<m->G2 (q+j)=.int .i64 (Dom.ft p (Dom.ev f) sq m j)):=fun j hj=>(ho1 (q+j) (by omega)).trans (HV1.out j hj);have HY:Hid (∀ j,j<m->G2 (q+m+j)=.int .i64 (Dom.ft p (Dom.od f) sq m j)):=hv1;have HZ:Hid (∀ j,j<q∨q+2*m<=j->G2 j=G j):=fun j hj=>(ho1 j (by omega)).trans ((HO1.out j (by omega)).trans (HOUT.out j hj));have HW:Hid (∀ j,j<o∨o+2*m<=j->F2 j=F j):=fun j hj=>(ho2 j (by omega)).trans (HO2.out j (by omega));clear hpa hg1 hf1 hv1 ho1 ho2 cc0 cc1 cc2 cd0 cd1 cd2 hpc hpc2 HS1 HS2 HM HODD HOD1 HV1 HO1 HO2 HPA1 HG2 HF2 HG1 HF1 HPR HOUT HP0 HC0 HC1 HC2 HF0 HG0;have x0:(1:Int)=r ^ 0 % (p:Int):=by rw[Int.pow_zero];exact (Int.emod_eq_of_lt (by omega) (by omega)).symm
   go_wp2_with fail
   go_loopw [13,69] (fun xv iv wr=>∃ (k:Nat) (F':Nat->Value),k<=m/\iv=.int .i64 k/\xv=.int .i64 (r ^ k % (p:Int))/\Hid (wr.rowIs g 3 N1 F')/\Hid (wr.rowIs h 3 N2 G2)
     /\ Hid (∀ j,j<k->F' (o+j)=.int .i64 (Dom.ft p f r (2*m) j))/\Hid (∀ j,j<k->F' (o+(m+j))=.int .i64 (Dom.ft p f r (2*m) (m+j)))
     /\ Hid (∀ j,j<o∨o+2*m<=j->F' j=F j)/\Hid (Pair g h w3 wr))
    (fun _ iv _=>m-(intOf iv).toNat)
   case atStart=>exact⟨0,F2,Nat.zero_le _,rfl,by rw[<- x0],HF3,HG3,fun j hj=>by omega,fun j hj=>by omega,HW.out,Pair.refl _ _ _⟩
   case round =>
    obtain⟨k,F',hk,rfl,rfl,hF1,hG1,hlo,hhi,hout,hpair⟩:=hrel;have hpw:=(hpair.out.cell (p:=⟨b,0,none⟩) (by show b<w3.heap.size;omega) hbg hbh).trans hpc3;have cw0:=(hpair.out.cell (p:=⟨w.heap.size,0,none⟩) (by show w.heap.size<w3.heap.size;omega) n1 n2).trans ce0;by_cases hlt:k<m
    ·have hlt2:(k:Int)<(m:Int):=by omega
     have hlt4:(m:Int)+(k:Int)<2*(m:Int):=by omega
     have i3:((m:Int)+(k:Int)).toNat=m+k:=by omega
     have i4:IntKind.i64.wrap ((m:Int)+(k:Int))=(m:Int)+(k:Int):=by rw[IntKind.wrap_i64];omega
     have i5:¬ 2*(m:Int)<=(k:Int):=by omega
     have i6:¬ (m:Int)+(k:Int)<0:=by omega
     have y1:=hG1.out.cell (i:=q+k) (by omega);rw[HX.out k hlt] at y1;have y2:=hG1.out.cell (i:=q+m+k) (by omega);rw[HY.out k hlt] at y2;have s1:=hF1.out.cell (i:=o+k) (by omega);have s2:=hF1.out.cell (i:=o+(m+k)) (by omega);have t1:=hF1.out.frozen (o+k);have t2:=hF1.out.frozen (o+(m+k));have hne:¬ o+(m+k)=o+k:=by omega
     obtain⟨xb1,xb2⟩:=qQ (r ^ k) p h3;have HEX:=HFX.out k hlt;have HOX:=HFY.out k hlt;have HL:=hid (HLOW.out k hlt);have HH:=hid (HHIGH.out k hlt)
     have HXS:Hid (∀ w1:World,w1.cell? ⟨b,0,none⟩=some (.int .i64 p)->Calls Tryz.prog 78 #[.pointer (some ⟨b,0,none⟩),.int .i64 (r ^ k % (p:Int)),.int .i64 r] w1 fun e w'=>e=.returned (.int .i64 (r ^ (k+1) % (p:Int)))/\w'=w1) :=
      fun w1 hc=>by
       have:=kK p b (r ^ k % (p:Int)) r w1 h3 hm hc (by omega) (by omega) (by omega) (by omega)
       rwa [show r ^ k % (p:Int)*r % (p:Int)=r ^ (k+1) % (p:Int) from by rw[Int.pow_succ,Int.mul_emod,Int.emod_emod_of_dvd _ (Int.dvd_refl _),<- Int.mul_emod]] at this
     obtain⟨xn,hxn⟩:=exE (r ^ (k+1) % (p:Int));have HXN:=hid hxn;rw[<- hxn] at HXS;clear hxn;generalize r ^ k % (p:Int)=xk at *;generalize Dom.ft p (Dom.ev f) sq m k=ex at *;generalize Dom.ft p (Dom.od f) sq m k=ox at *
     have HM2:Hid (∀ w1:World,w1.cell? ⟨b,0,none⟩=some (.int .i64 p)->Calls Tryz.prog 78 #[.pointer (some ⟨b,0,none⟩),.int .i64 xk,.int .i64 ox] w1 fun e w'=>e=.returned (.int .i64 (xk*ox % (p:Int)))/\w'=w1) :=
      fun w1 hc=>kK p b xk ox w1 h3 hm hc (by omega) (by omega) HOX.1 HOX.2
     obtain⟨rb1,rb2⟩:=qQ (xk*ox) p h3;generalize xk*ox % (p:Int)=rest at *
     have HAD:Hid (∀ w1:World,w1.cell? ⟨b,0,none⟩=some (.int .i64 p)->Calls Tryz.prog 64 #[.pointer (some ⟨b,0,none⟩),.int .i64 ex,.int .i64 rest] w1 fun e w'=>e=.returned (.int .i64 ((ex+rest) % (p:Int)))/\w'=w1) :=
      fun w1 hc=>yV p b ex rest w1 h3 hm hc HEX.1 HEX.2 (by omega) (by omega)
     have HSU:Hid (∀ w1:World,w1.cell? ⟨b,0,none⟩=some (.int .i64 p)->Calls Tryz.prog 109 #[.pointer (some ⟨b,0,none⟩),.int .i64 ex,.int .i64 rest] w1 fun e w'=>e=.returned (.int .i64 ((ex-rest) % (p:Int)))/\w'=w1) :=
      fun w1 hc=>Ej p b ex rest w1 h3 hm hc HEX.1 HEX.2 (by omega) (by omega)
     rw[HL.out] at HAD;rw[HH.out] at HSU;go_wp2_with fail
     go_quiet (first
      | (go_at_call 78;exact Calls.quiet_of_same (HM2.out _ hpw)))
     have q1:(wr.drewN nq).drew.cell? ⟨w.heap.size,0,none⟩=some (.pointer (some ⟨b,0,none⟩)):=cw0;have q2:(wr.drewN nq).drew.cell? ⟨h,q+k,none⟩=some (.int .i64 ex):=y1;have hpq:(wr.drewN nq).drew.cell? ⟨b,0,none⟩=some (.int .i64 p):=hpw;have v1:(wr.drewN nq).cell? ⟨g,o+k,none⟩=some (F' (o+k)):=s1;have v2:(wr.drewN nq).cell? ⟨g,o+(m+k),none⟩=some (F' (o+(m+k))):=s2;have v3:(wr.drewN nq).frozen? ⟨g,o+k,none⟩=false:=t1;have v4:(wr.drewN nq).frozen? ⟨g,o+(m+k),none⟩=false:=t2;have HFQ:Hid ((wr.drewN nq).drew.rowIs g 3 N1 F'):=hF1;have HGQ:Hid ((wr.drewN nq).drew.rowIs h 3 N2 G2):=hG1;have HPQ:Hid (Pair g h w3 (wr.drewN nq).drew):=(hpair.out.drewN nq).drew;have HLO:=hlo;have HHI:=hhi;have HOU:=hout;generalize F' (o+k)=u1 at v1;generalize F' (o+(m+k))=u2 at v2;clear s1 s2 t1 t2 y1 y2 cw0 hpw hF1 hG1 hpair hlo hhi hout HM2 HL HH;generalize wr.drewN nq=wq at *;have hC0:wq.drew.cell? ⟨w.heap.size,0,none⟩=some (.pointer (some ⟨b,0,none⟩))/\wq.drew.cell? ⟨h,q+k,none⟩=some (.int .i64 ex):=⟨q1,q2⟩
     go_wp2_with fail;refine jQ (C:=fun W=>W.cell? ⟨w.heap.size,0,none⟩=some (.pointer (some ⟨b,0,none⟩))/\W.cell? ⟨h,q+k,none⟩=some (.int .i64 ex)) (st:=[23,25]) hmx ?_;show jY _ _ _ _ _ _ 26 (Array.replicate 26 false) _ _;refine psU 0 (.slice (some ⟨g,o,none⟩) (2*m) c1) rfl (fun W _=>?_) (fun _=>hC0) ?_
     ·go_simp
     refine psU 1 (.int .i64 k) rfl (fun W _=>?_) (fun _=>hC0) ?_
     ·go_simp
     refine psU 2 (.slice (some ⟨g,o,none⟩) (2*m) c1) rfl (fun W _=>?_) (fun _=>hC0) ?_
     ·go_simp
     refine psU 3 (.int .i64 m) rfl (fun W _=>?_) (fun _=>hC0) ?_
     ·go_simp
     refine psU 4 (.int .i64 k) rfl (fun W _=>?_) (fun _=>hC0) ?_
     ·go_simp
     refine psU 5 (.int .i64 ((m:Int)+(k:Int))) rfl (fun W _=>?_) (fun _=>hC0) ?_
     ·go_simp
     refine psU 6 (.pointer (some ⟨w.heap.size,0,none⟩)) rfl (fun W _=>?_) (fun _=>hC0) ?_
     ·go_simp
     refine psT 7 (.pointer (some ⟨b,0,none⟩)) rfl (fun W hC=>?_) hC0 ?_
     ·obtain⟨g1,g2⟩:=hC;go_simp
     refine psU 8 (.slice (some ⟨h,q,none⟩) m c2) rfl (fun W _=>?_) (fun _=>hC0) ?_
     ·go_simp
     refine psU 9 (.int .i64 k) rfl (fun W _=>?_) (fun _=>hC0) ?_
     ·go_simp
     refine psU 10 (.pointer (some ⟨h,q+k,none⟩)) rfl (fun W _=>?_) (fun _=>hC0) ?_
     ·go_simp
     refine psT 11 (.int .i64 ex) rfl (fun W hC=>?_) hC0 ?_
     ·obtain⟨g1,g2⟩:=hC;go_simp
     refine psU 12 (.int .i64 rest) rfl (fun W _=>?_) (fun _=>hC0) ?_
     ·go_simp
     refine psU 14 (.pointer (some ⟨w.heap.size,0,none⟩)) rfl (fun W _=>?_) (fun _=>hC0) ?_
     ·go_simp
     refine psT 15 (.pointer (some ⟨b,0,none⟩)) rfl (fun W hC=>?_) hC0 ?_
     ·obtain⟨g1,g2⟩:=hC;go_simp
     refine psU 16 (.slice (some ⟨h,q,none⟩) m c2) rfl (fun W _=>?_) (fun _=>hC0) ?_
     ·go_simp
     refine psU 17 (.int .i64 k) rfl (fun W _=>?_) (fun _=>hC0) ?_
     ·go_simp
     refine psU 18 (.pointer (some ⟨h,q+k,none⟩)) rfl (fun W _=>?_) (fun _=>hC0) ?_
     ·go_simp
     refine psT 19 (.int .i64 ex) rfl (fun W hC=>?_) hC0 ?_
     ·obtain⟨g1,g2⟩:=hC;go_simp
     refine psU 20 (.int .i64 rest) rfl (fun W _=>?_) (fun _=>hC0) ?_
     ·go_simp
     refine Ad 13 fun K' hK'=>?_;go_simp;refine (HAD.out wq.drew hpq).mono ?_;rintro e w5 ⟨rfl,rfl⟩;refine hK' _ _ ⟨fun _=>hC0,?_⟩;clear hK' K';refine Ad 21 fun K' hK'=>?_;go_simp;refine (HSU.out wq.drew hpq).mono ?_;rintro e w5 ⟨rfl,rfl⟩;refine hK' _ _ ⟨fun _=>hC0,?_⟩;clear hK' K';refine psU 22 (.pointer (some ⟨g,o+k,none⟩)) rfl (fun W _=>?_) (fun _=>hC0) ?_
     ·go_simp
     refine Ad 23 fun K' hK'=>?_;go_simp;refine hK' _ _ ⟨fun h=>absurd (h 23 (by simp)) (by decide),?_⟩;clear hK' K';refine psU 24 (.pointer (some ⟨g,o+(m+k),none⟩)) rfl (fun W _=>?_) (fun h=>absurd (h 23 (by simp)) (by decide)) ?_
     ·go_simp
     refine Ad 25 fun K' hK'=>?_;go_simp;refine hK' _ _ ⟨fun h=>absurd (h 23 (by simp)) (by decide),?_⟩;clear hK' K';refine kJ (by kernel_rfl) ?_ _;generalize hlok:Dom.ft p f r (2*m) k=lo at *;generalize hhik:Dom.ft p f r (2*m) (m+k)=hi at *;have HFN:Hid (((wq.setCell ⟨g,o+k,none⟩ (.int .i64 lo)).setCell ⟨g,o+(m+k),none⟩ (.int .i64 hi)).drew.rowIs g 3 N1 (up2 F' (o+k) (.int .i64 lo) (o+(m+k)) (.int .i64 hi))):=Nv (w:=wq.drew) HFQ.out _ _ _ _;have HGN:Hid (((wq.setCell ⟨g,o+k,none⟩ (.int .i64 lo)).setCell ⟨g,o+(m+k),none⟩ (.int .i64 hi)).drew.rowIs h 3 N2 G2):=(HGQ.out.setOther (a:=⟨g,o+k,none⟩) hgh.symm _).setOther (a:=⟨g,o+(m+k),none⟩) hgh.symm _;have HPN:Hid (Pair g h w3 ((wq.setCell ⟨g,o+k,none⟩ (.int .i64 lo)).setCell ⟨g,o+(m+k),none⟩ (.int .i64 hi)).drew):=(HPQ.out.setCell (p:=⟨g,o+k,none⟩) (.inl rfl) _).setCell (p:=⟨g,o+(m+k),none⟩) (.inl rfl) _;have HPC:Hid (((wq.setCell ⟨g,o+k,none⟩ (.int .i64 lo)).setCell ⟨g,o+(m+k),none⟩ (.int .i64 hi)).drew.cell? ⟨b,0,none⟩=some (.int .i64 p)):=(HPN.out.cell (p:=⟨b,0,none⟩) (by show b<w3.heap.size;omega) hbg hbh).trans hpc3;have HCC:((wq.setCell ⟨g,o+k,none⟩ (.int .i64 lo)).setCell ⟨g,o+(m+k),none⟩ (.int .i64 hi)).cell? ⟨w.heap.size,0,none⟩=some (.pointer (some ⟨b,0,none⟩)):=(HPN.out.cell (p:=⟨w.heap.size,0,none⟩) (by show w.heap.size<w3.heap.size;omega) n1 n2).trans ce0
     have HLN:Hid (∀ j,j<k+1->up2 F' (o+k) (.int .i64 lo) (o+(m+k)) (.int .i64 hi) (o+j)=.int .i64 (Dom.ft p f r (2*m) j)):=fun j hj=>by
      unfold up2;rw[if_neg (by omega)];by_cases e:j=k
      ·rw[if_pos (by omega),e,hlok]
      ·rw[if_neg (by omega)];exact HLO.out j (by omega)
     have HHN:Hid (∀ j,j<k+1->up2 F' (o+k) (.int .i64 lo) (o+(m+k)) (.int .i64 hi) (o+(m+j))=.int .i64 (Dom.ft p f r (2*m) (m+j))):=fun j hj=>by
      unfold up2;by_cases e:j=k
      ·rw[if_pos (by omega),e,hhik]
      ·rw[if_neg (by omega),if_neg (by omega)];exact HHI.out j (by omega)
     have HON:Hid (∀ j,j<o∨o+2*m<=j->up2 F' (o+k) (.int .i64 lo) (o+(m+k)) (.int .i64 hi) j=F j):=fun j hj=>by unfold up2;rw[if_neg (by omega),if_neg (by omega)];exact HOU.out j hj
     clear hlok hhik i4 i5 i6 i3;go_wp2_with fail;refine (HXS.out _ HPC.out).mono ?_;rintro e w6 ⟨rfl,rfl⟩;clear hlt4 HEX HOX xb1 xb2 rb1 rb2 q1 q2 v1 v2 v3 v4 hpq hne sl1 sl2 sl3 x0 e1 e2;have i7:IntKind.i64.wrap ((k:Int)+1)=(k:Int)+1:=by rw[IntKind.wrap_i64];omega
     go_wp2_with fail;go_roundw
     case rel=>exact⟨k+1,_,by omega,by go_num,by rw[HXN.out],HFN,HGN,HLN,HHN,HON,HPN⟩
     case measure=>simp[intOf];omega
    ·have hlt2:¬ (k:Int)<(m:Int):=by omega
     have HPE:Hid (Pair g h w wr):=HPA2.out.trans hpair.out
     have HFE:Hid (∀ j,j<2*m->F' (o+j)=.int .i64 (Dom.ft p f r (2*m) j)):=fun j hj=>by
      by_cases hjm:j<m
      ·exact hlo.out j (by omega)
      ·have:=hhi.out (j-m) (by omega)
       rwa [show m+(j-m)=j from by omega] at this
     go_wp2_with fail;go_end0;exact⟨rfl,HPE.out,F',hF1.out,G2,hG1.out,HFE.out,hout.out,HZ.out⟩
theorem Kj (p b:Nat) (hpr:Num.Prime p) (h3:3<=p) (hm:p<=2147483647):∀ k,k<=16->Do p b (2 ^ k)
 | 0,_=>Vn p b
 | k+1,hk=>by
  have:=Rr p b (2 ^ k) hpr h3 hm (Nat.pow_pos (by decide)) (Nat.le_trans (Nat.pow_le_pow_right (by decide) (show k<=16 by omega)) (by decide)) (Kj p b hpr h3 hm k (by omega))
  rwa [show 2 ^ (k+1)=2*2 ^ k from by rw[Nat.pow_succ];omega]
theorem Rt (p b d n cap:Nat) (r s:Int) (P:Nat->Prop) (a:Option Addr) (zs:List Int) (w:World) (h3:3<=p) (hm:p<=2147483647) (hp:w.cell? ⟨b,0,none⟩=some (.int .i64 p)) (hd:DomAt w d b n r s)
  (hn0:0<n) (hn:n<=65536) (hs0:0<=s) (hs1:s<p) (hlen:zs.length<=281474976710656) (hfit:Fits zs) (hrow:Ry P w a zs) (hP:∀ k,P k->k<w.heap.size) :
  Calls Tryz.prog 130 #[.pointer (some ⟨d,0,none⟩),.slice a zs.length cap] w fun e w' =>
   e=.returned (.slice (some ⟨w.heap.size,0,none⟩) n n)/\w'.rowIs w.heap.size 3 n (fun j=>.int .i64 (Dom.wrp (zat zs) s n zs.length j % (p:Int)))/\Below w.heap.size w w'/\w'.heap.size=w.heap.size+1:=by
 have hbl0:b<w.heap.size:=by
  rcases Nat.lt_or_ge b w.heap.size with g | g
  ·exact g
  ·simp[World.cell?,Array.getElem?_eq_none g] at hp
 have hdl:=hd.lt;obtain⟨c0,c1,c2,c3⟩:=hd;have HF:=hid hfit;have HR:=hid hrow;have HPP:=hid hP;clear hfit hrow hP;have hmk:=fun n h1 h2 w=>run_make_row' (P:=Tryz.prog) 25 3 (.int .i64 0) 8 Tryz.underlying25 Tryz.infoInt rfl .i64 .i64 n h1 h2 w;have hmk2:=hmk n (by omega) (by omega);clear hmk;have hmx:Tryz.prog.follows .mixedOrders=true:=by kernel_rfl
 go_enter Tryz.func130,Tryz.ntmps130;go_wp2_with fail
 go_loopw [6,18] (fun xv iv wr=>∃ k:Nat,k<=zs.length/\iv=.int .i64 k/\xv=.int .i64 (s ^ k % (p:Int))/\Hid (wr.rowIs w.heap.size 3 n (fun j=>.int .i64 (Dom.wrp (zat zs) s n k j % (p:Int))))/\Hid (Below w.heap.size w wr)/\wr.heap.size=w.heap.size+1)
  (fun _ iv _=>zs.length-(intOf iv).toNat)
 case atStart =>
  refine⟨0,Nat.zero_le _,rfl,?_,(World.rowIs_made _ _ _ _).congr (fun j _=>?_),?_,by simp⟩
  ·have:s ^ 0 % (p:Int)=1:=by rw[Int.pow_zero];exact Int.emod_eq_of_lt (by omega) (by omega)
   rw[this]
  ·simp[Dom.wrp,Pol.zero]
  ·exact (Below.refl _ _).alloc (Nat.le_refl _) _
 case round =>
  obtain⟨k,hk,rfl,rfl,hri,hbel,hsz⟩:=hrel;by_cases hlt:k<zs.length
  ·have hlt2:(k:Int)<(zs.length:Int):=by omega
   obtain⟨bl,ol,rfl,hbl,hcl⟩:=HR.out k hlt;have hcl2:=(hbel.out.cell (p:=⟨bl,ol+k,none⟩) (HPP.out _ hbl)).trans hcl;obtain⟨hy1,hy2⟩:=HF.out k hlt;have hpc:=(hbel.out.cell (p:=⟨b,0,none⟩) hbl0).trans hp;have d0:=(hbel.out.cell (p:=⟨d,0,none⟩) hdl).trans c0;have d1:=(hbel.out.cell (p:=⟨d,1,none⟩) hdl).trans c1;have d3:=(hbel.out.cell (p:=⟨d,3,none⟩) hdl).trans c3;have htn:k % n<n:=Nat.mod_lt _ hn0;have et:(k:Int) % (n:Int)=((k % n:Nat):Int):=by rw[Int.natCast_emod]
   have hok:=hri.out.cell htn;have hos:=hri.out.frozen (k % n);have HWM:=hid (Dom.wrp_mod p (zat zs) s n k);obtain⟨ob1,ob2⟩:=qQ (Dom.wrp (zat zs) s n k (k % n)) p h3;obtain⟨qb1,qb2⟩:=qQ (s ^ k) p h3
   have HRI:Hid ((wr.setCell ⟨w.heap.size,k % n,none⟩ (.int .i64 (Dom.wrp (zat zs) s n (k+1) (k % n) % (p:Int)))).rowIs w.heap.size 3 n (fun j=>.int .i64 (Dom.wrp (zat zs) s n (k+1) j % (p:Int)))) :=
    (hri.out.set (k % n) _).congr (fun j _=>by
     show (if j=k % n then _ else Value.int .i64 (Dom.wrp (zat zs) s n k j % (p:Int)))=Value.int .i64 ((if j=k % n then Dom.wrp (zat zs) s n k j+zat zs k*s ^ k else Dom.wrp (zat zs) s n k j) % (p:Int));by_cases e:j=k % n
     ·rw[if_pos e,if_pos e,e];simp only[Dom.wrp,if_true]
     ·rw[if_neg e,if_neg e])
   have HB:=hid (hbel.out.setCell (p:=⟨w.heap.size,k % n,none⟩) (by simp) (.int .i64 (Dom.wrp (zat zs) s n (k+1) (k % n) % (p:Int))))
   have HQ:Hid (∀ w1:World,w1.cell? ⟨b,0,none⟩=some (.int .i64 p)->Calls Tryz.prog 78 #[.pointer (some ⟨b,0,none⟩),.int .i64 (s ^ k % (p:Int)),.int .i64 s] w1 fun e w'=>e=.returned (.int .i64 (s ^ (k+1) % (p:Int)))/\w'=w1) :=
    fun w1 hc=>by
     have:=kK p b (s ^ k % (p:Int)) s w1 h3 hm hc (by omega) (by omega) (by omega) (by omega)
     rwa [show s ^ k % (p:Int)*s % (p:Int)=s ^ (k+1) % (p:Int) from by rw[Int.pow_succ,Int.mul_emod,Int.emod_emod_of_dvd _ (Int.dvd_refl _),<- Int.mul_emod]] at this
   obtain⟨sn,hsn⟩:=exE (s ^ (k+1) % (p:Int));have HSN:=hid hsn;rw[<- hsn] at HQ
   have HM:Hid (∀ w1:World,w1.cell? ⟨b,0,none⟩=some (.int .i64 p)->Calls Tryz.prog 78 #[.pointer (some ⟨b,0,none⟩),.int .i64 (zat zs k),.int .i64 (s ^ k % (p:Int))] w1 fun e w'=>e=.returned (.int .i64 (zat zs k*(s ^ k % (p:Int)) % (p:Int)))/\w'=w1) :=
    fun w1 hc=>kK p b _ _ w1 h3 hm hc hy1 hy2 (by omega) (by omega)
   obtain⟨mb1,mb2⟩:=qQ (zat zs k*(s ^ k % (p:Int))) p h3
   have HA:Hid (∀ w1:World,w1.cell? ⟨b,0,none⟩=some (.int .i64 p)->Calls Tryz.prog 64 #[.pointer (some ⟨b,0,none⟩),.int .i64 (Dom.wrp (zat zs) s n k (k % n) % (p:Int)),.int .i64 (zat zs k*(s ^ k % (p:Int)) % (p:Int))] w1 fun e w'=>e=.returned (.int .i64 (Dom.wrp (zat zs) s n (k+1) (k % n) % (p:Int)))/\w'=w1) :=
    fun w1 hc=>by rw[<- HWM.out];exact yV p b _ _ w1 h3 hm hc (by omega) (by omega) (by omega) (by omega)
   clear hsn HWM hcl;generalize zat zs k*(s ^ k % (p:Int)) % (p:Int)=mq at *;generalize s ^ k % (p:Int)=qk at *;generalize Dom.wrp (zat zs) s n (k+1) (k % n) % (p:Int)=z at *;generalize Dom.wrp (zat zs) s n k (k % n) % (p:Int)=oz at *;generalize zat zs k=y at *;generalize k % n=t at *;have htn2:(t:Int)<(n:Int):=by omega
   have hzn:((n:Int)==0)=false:=by rw[beq_eq_false_iff_ne];omega
   have f0:(wr.setCell ⟨w.heap.size,t,none⟩ (.int .i64 z)).cell? ⟨d,0,none⟩=some (.pointer (some ⟨b,0,none⟩)):=(HB.out.cell (p:=⟨d,0,none⟩) hdl).trans c0;have f3:(wr.setCell ⟨w.heap.size,t,none⟩ (.int .i64 z)).cell? ⟨d,3,none⟩=some (.int .i64 s):=(HB.out.cell (p:=⟨d,3,none⟩) hdl).trans c3;have hpc2:(wr.setCell ⟨w.heap.size,t,none⟩ (.int .i64 z)).drew.cell? ⟨b,0,none⟩=some (.int .i64 p):=(HB.out.cell (p:=⟨b,0,none⟩) hbl0).trans hp;go_wp2_with fail;go_still_tail 20,hmx
   still_call (HM.out _ hpc);still_call (HA.out _ hpc);refine wpStill_nil ?_;go_wp2_with fail;have g0:(wr.setCell ⟨w.heap.size,t,none⟩ (.int .i64 z)).drew.cell? ⟨d,0,none⟩=some (.pointer (some ⟨b,0,none⟩)):=f0;have g3:(wr.setCell ⟨w.heap.size,t,none⟩ (.int .i64 z)).drew.cell? ⟨d,3,none⟩=some (.int .i64 s):=f3;have HRX:Hid ((wr.setCell ⟨w.heap.size,t,none⟩ (.int .i64 z)).drew.rowIs w.heap.size 3 n (fun j=>.int .i64 (Dom.wrp (zat zs) s n (k+1) j % (p:Int)))):=HRI;have HBX:Hid (Below w.heap.size w (wr.setCell ⟨w.heap.size,t,none⟩ (.int .i64 z)).drew):=HB.out.drew
   have hsx:(wr.setCell ⟨w.heap.size,t,none⟩ (.int .i64 z)).drew.heap.size=w.heap.size+1:=by show (wr.setCell ⟨w.heap.size,t,none⟩ (.int .i64 z)).heap.size=_;simp[World.setCell];exact hsz
   clear f0 f3 HRI HB hok hos hpc d0 d1 d3 hcl2;generalize (wr.setCell ⟨w.heap.size,t,none⟩ (.int .i64 z)).drew=X at *
   go_quiet (first
    | (go_at_call 78;exact Calls.quiet_of_same (HQ.out _ hpc2)))
   go_wp2_with fail;go_roundw
   case rel=>exact⟨k+1,by omega,by go_num,by rw[HSN.out],HRX,below_drewN HBX.out _,hsx⟩
   case measure=>simp[intOf];omega
  ·have hlt2:¬ (k:Int)<(zs.length:Int):=by omega
   obtain rfl:k=zs.length:=by omega
   go_wp2_with fail;go_ret;exact⟨rfl,hri.out,hbel.out,hsz⟩
theorem aEX (p:Nat) (hp:0<p) (zs:List Int) (s r:Int) (j:Nat):Pol.ps (zat zs) (s*r ^ j) zs.length % (p:Int)=evz p zs (Dom.pt p s r j):=by
 unfold evz Dom.pt;rw[Pol.emod_eq_iff hp];exact Dom.ps_point (zat zs) (by have:=Int.dvd_neg.2 (Pol.emod_dvd p (s*r ^ j));rwa [Int.neg_sub] at this) _
theorem Vo (p b d k n cap:Nat) (r s:Int) (P:Nat->Prop) (a:Option Addr) (zs:List Int) (w:World) (hpr:Num.Prime p) (h3:3<=p) (hm:p<=2147483647) (hp:w.cell? ⟨b,0,none⟩=some (.int .i64 p)) (hd:DomAt w d b n r s)
  (hk:k<=16) (hn:n=2 ^ k) (hr0:0<=r) (hr1:r<p) (hord:Dom.Ord p r n) (hs0:0<=s) (hs1:s<p) (hlen:zs.length<=281474976710656) (hfit:Fits zs) (hrow:Ry P w a zs) (hP:∀ k,P k->k<w.heap.size) :
  Calls Tryz.prog 72 #[.pointer (some ⟨d,0,none⟩),.slice a zs.length cap] w fun e w' =>
   e=.returned (.slice (some ⟨w.heap.size,0,none⟩) n n)/\w'.rowIs w.heap.size 3 n (fun j=>.int .i64 (evz p zs (Dom.pt p s r j)))/\Below w.heap.size w w'/\w.heap.size<w'.heap.size:=by
 have hbl:b<w.heap.size:=by
  rcases Nat.lt_or_ge b w.heap.size with g | g
  ·exact g
  ·simp[World.cell?,Array.getElem?_eq_none g] at hp
 have hdl:=hd.lt;have hn0:0<n:=hn ▸ Nat.pow_pos (by decide);have hn1:n<=65536:=hn ▸ Nat.le_trans (Nat.pow_le_pow_right (by decide) hk) (by decide);have HW:=hid (Rt p b d n cap r s P a zs w h3 hm hp hd hn0 hn1 hs0 hs1 hlen hfit hrow hP);have HSP:=hid (hn ▸ Kj p b hpr h3 hm k hk:Do p b n);have HO:=hid hord;have HD:=hid hd;have HEV:Hid (∀ j,j<n->Dom.ft p (fun t=>Dom.wrp (zat zs) s n zs.length t % (p:Int)) r n j=evz p zs (Dom.pt p s r j)):=fun j hj=>(Dom.wrp_values (by omega) (zat zs) s hord zs.length hj).trans (aEX p (by omega) zs s r j);clear hfit hrow hP hord hd hn;have hmk:=fun n h1 h2 w=>run_make_row' (P:=Tryz.prog) 25 3 (.int .i64 0) 8 Tryz.underlying25 Tryz.infoInt rfl .i64 .i64 n h1 h2 w;have hmk2:=hmk n (by omega) (by omega);clear hmk;have hmx:Tryz.prog.follows .mixedOrders=true:=by kernel_rfl
 go_enter Tryz.func72,Tryz.ntmps72;go_wp2_with fail;refine HW.out.mono ?_;rintro e w1 ⟨rfl,hri,hb1,hs1x⟩;have HRI:=hid hri;have HB1:=hid hb1;obtain⟨c0,c1,c2,c3⟩:=HD.out.below hb1 hdl;have hpc:=(hb1.cell (p:=⟨b,0,none⟩) hbl).trans hp;clear hri hb1;go_wp2_with fail;have hC0:w1.drew.cell? ⟨d,0,none⟩=some (.pointer (some ⟨b,0,none⟩))/\w1.drew.cell? ⟨d,1,none⟩=some (.int .i64 n)/\w1.drew.cell? ⟨d,2,none⟩=some (.int .i64 r):=⟨c0,c1,c2⟩
 refine jQ (C:=fun W=>W.cell? ⟨d,0,none⟩=some (.pointer (some ⟨b,0,none⟩))/\W.cell? ⟨d,1,none⟩=some (.int .i64 n)/\W.cell? ⟨d,2,none⟩=some (.int .i64 r)) (st:=[16]) hmx ?_;show jY _ _ _ _ _ _ 17 (Array.replicate 17 false) _ _;refine psU 0 (.pointer (some ⟨d,0,none⟩)) rfl (fun W _=>?_) (fun _=>hC0) ?_
 ·go_simp
 refine psU 1 (.pointer (some ⟨d,0,none⟩)) rfl (fun W _=>?_) (fun _=>hC0) ?_
 ·go_simp
 refine psU 2 (.pointer (some ⟨d,0,none⟩)) rfl (fun W _=>?_) (fun _=>hC0) ?_
 ·go_simp
 refine psT 3 (.agg #[.pointer (some ⟨b,0,none⟩),.int .i64 n,.int .i64 r]) rfl (fun W hC=>?_) hC0 ?_
 ·obtain⟨g0,g1,g2⟩:=hC;go_simp
 refine psU 4 (.slice (some ⟨w.heap.size,0,none⟩) n n) rfl (fun W _=>?_) (fun _=>hC0) ?_
 ·go_simp
 refine psU 5 (.pointer (some ⟨d,0,none⟩)) rfl (fun W _=>?_) (fun _=>hC0) ?_
 ·go_simp
 refine psU 6 (.pointer (some ⟨d,0,none⟩)) rfl (fun W _=>?_) (fun _=>hC0) ?_
 ·go_simp
 refine psU 7 (.pointer (some ⟨d,0,none⟩)) rfl (fun W _=>?_) (fun _=>hC0) ?_
 ·go_simp
 refine psU 8 (.pointer (some ⟨d,1,none⟩)) rfl (fun W _=>?_) (fun _=>hC0) ?_
 ·go_simp
 refine psT 9 (.int .i64 n) rfl (fun W hC=>?_) hC0 ?_
 ·obtain⟨g0,g1,g2⟩:=hC;go_simp
 refine psU 11 (.pointer (some ⟨d,0,none⟩)) rfl (fun W _=>?_) (fun _=>hC0) ?_
 ·go_simp
 refine psU 12 (.pointer (some ⟨d,0,none⟩)) rfl (fun W _=>?_) (fun _=>hC0) ?_
 ·go_simp
 refine psU 13 (.pointer (some ⟨d,0,none⟩)) rfl (fun W _=>?_) (fun _=>hC0) ?_
 ·go_simp
 refine psU 14 (.pointer (some ⟨d,2,none⟩)) rfl (fun W _=>?_) (fun _=>hC0) ?_
 ·go_simp
 refine psT 15 (.int .i64 r) rfl (fun W hC=>?_) hC0 ?_
 ·obtain⟨g0,g1,g2⟩:=hC;go_simp
 refine Ad 10 fun K' hK'=>?_;go_simp;have hC1:Below w1.heap.size w1 (w1.alloc (.cells (madeCells #[.int .i64 0] n) 3)).drew:=((Below.refl _ _).alloc (Nat.le_refl _) _).drew
 have hsW:(w1.alloc (.cells (madeCells #[.int .i64 0] n) 3)).drew.heap.size=w1.heap.size+1:=by show (w1.alloc (.cells (madeCells #[.int .i64 0] n) 3)).heap.size=_;simp
 have hd1:d<w1.heap.size:=by omega
 refine hK' _ _ ⟨fun _=>⟨(hC1.cell (p:=⟨d,0,none⟩) hd1).trans c0,(hC1.cell (p:=⟨d,1,none⟩) hd1).trans c1,(hC1.cell (p:=⟨d,2,none⟩) hd1).trans c2⟩,?_⟩;clear hK' K';refine Ad 16 fun K' hK'=>?_;go_simp
 have hmade:(w1.alloc (.cells (madeCells #[.int .i64 0] n) 3)).drew.rowIs (w.heap.size+1) 3 n (fun _=>.int .i64 0):=by rw[<- hs1x];exact (World.rowIs_made w1 _ n _).drew
 have hcall:=HSP.out n r r w.heap.size (w.heap.size+1) 0 0 n n n n _ (fun _=>.int .i64 0) (fun t=>Dom.wrp (zat zs) s n zs.length t % (p:Int)) (w1.alloc (.cells (madeCells #[.int .i64 0] n) 3)).drew
  ((hC1.cell (p:=⟨b,0,none⟩) (show b<w1.heap.size by omega)).trans hpc) (by omega) (by omega) (by omega) (HRI.out.alloc _).drew hmade (by omega) (by omega) (Nat.le_refl _) (Nat.le_refl _) hr0 hr1 HO.out
  (fun j _=>by rw[Nat.zero_add]) (fun j _=>by have:=qQ (Dom.wrp (zat zs) s n zs.length j) p h3;omega)
 refine hcall.mono ?_;rintro e w3 ⟨rfl,hpa,F',G',hF',hG',hv,_,_⟩;refine hK' _ _ ⟨fun h=>absurd (h 16 (by simp)) (by decide),?_⟩;clear hK' K';refine kJ (by kernel_rfl) ?_ _
 have HRF:Hid (w3.rowIs w.heap.size 3 n (fun j=>.int .i64 (evz p zs (Dom.pt p s r j)))):=hF'.congr (fun j hj=>by
  have:=hv j hj;rw[Nat.zero_add] at this
  rw[this,HEV.out j hj])
 have HBF:Hid (Below w.heap.size w w3):=(HB1.out.trans (hC1.mono (by omega))).trans (hpa.below (by rw[hsW];omega) (Nat.le_refl _) (by omega));have hsf:w.heap.size<w3.heap.size:=by have:=hpa.size;rw[hsW] at this;omega
 clear hpa hF' hG' hv hcall hC1 hC0;go_wp2_with fail;go_ret;exact⟨rfl,HRF.out,HBF.out,hsf⟩
theorem aAx{r:Nat} (hp:Num.Prime p) (h3:3<=p) (hd:(p-1) % 2 ^ k=0) (h:Kp p ((2 ^ k:Nat):Int) r):Dom.Ord p (r:Int) (2 ^ k)/\r<p:=by
 have hpos:1<=2 ^ k:=Nat.pow_pos (by decide);rcases h with ⟨h1,_⟩ | ⟨_,_,g,hg,rfl⟩
 ·rcases h1 with h1 | h1
  ·omega
  ·exact absurd (Ki h3 hd) h1
 ·obtain⟨g1,g2,g3⟩:=Num.genIs_some hp h3 hg;rw[Int.toNat_natCast];exact⟨Num.root_circle hp h3 g1 g2 g3 hpos (Nat.dvd_of_mod_eq_zero hd),Num.pwm_lt _ _ _ (by omega)⟩
structure GoodAt (q k:Nat) (s:Int):Prop where
 pr:Num.Prime q
 h3:3<=q
 h4:q<=2147483647
 hk:k<=16
 hd:(q-1) % 2 ^ k=0
 hs:¬ s % (q:Int)=0
theorem Az (hk:k<=16):2 ^ k<=65536:=Nat.pow_le_pow_right (by decide:0<2) hk
theorem Jj (h:¬ s % (p:Int)=0):¬ (p:Int)∣s % (p:Int):=fun hd=>h (by
 have:=Int.emod_eq_zero_of_dvd hd
 rwa [Int.emod_emod_of_dvd _ (Int.dvd_refl _)] at this)
def Kk (a b c d:Value):Nat->Value
 | 0=>a
 | 1=>b
 | 2=>c
 | _=>d
theorem Fl (w:World) (t:TypeId) (a b c d:Value):(w.alloc (.cells #[a,b,c,d] t)).rowIs w.heap.size t 4 (Kk a b c d) :=
 ⟨#[a,b,c,d],heap_alloc_new w _,rfl,fun i hi=>by
  have:i=0∨i=1∨i=2∨i=3:=by omega
  rcases this with rfl | rfl | rfl | rfl <;> rfl⟩
theorem Kl{t:TypeId}{a b c d:Value} (h:W.rowIs g t 4 (Kk a b c d)):W.heap[g]?=some (.cells #[a,b,c,d] t (0,0)):=by
 obtain⟨cs,h1,h2,h4⟩:=h;rw[h1]
 have e:cs=#[a,b,c,d]:=by
  apply Array.ext
  ·simpa using h2
  ·intro i hi hi2;have h0:i=0∨i=1∨i=2∨i=3:=by simp at hi2;omega
   have h5:=h4 i (by omega);rw[Array.getElem?_eq_getElem hi] at h5;have h6:=Option.some.inj h5;rw[h6];rcases h0 with rfl | rfl | rfl | rfl <;> rfl
 rw[e]
theorem Km{t:TypeId}{f:Nat->Value} (h:W.rowIs g t 4 f) (a b c d:Value):((((W.setCell ⟨g,0,none⟩ a).setCell ⟨g,1,none⟩ b).setCell ⟨g,2,none⟩ c).setCell ⟨g,3,none⟩ d).rowIs g t 4 (Kk a b c d) :=
 ((((h.set 0 a).set 1 b).set 2 c).set 3 d).congr (fun i hi=>by
  have:i=0∨i=1∨i=2∨i=3:=by omega
  rcases this with rfl | rfl | rfl | rfl <;> simp[Kk])
end Go.Proofs.YtkdndfbfmchcpaaGreatDoor
