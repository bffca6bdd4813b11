
import Derived.Test.YtkdndfbfmchcpaaGreatDoorTgAV
set_option maxRecDepth 1000000
set_option maxHeartbeats 8000000
namespace Go.Proofs.YtkdndfbfmchcpaaGreatDoor
variable {B0 B1 b base lo p:Nat}{L zs:List Int}{W w:World}{v:Value}
open Go.RowKit
theorem Xx (n1 n2 n3 c1 c2 c3 l:Nat) (a1 a2 a3:Option Addr) (x y x4 x5 x6:Value) (h:Int) (w:World) (hl:l<=12) :
  Calls Tryz.prog 37 #[.agg #[x,y,.int .i64 h,.int .i64 (l:Int)],.agg #[.slice a1 n1 c1,.slice a2 n2 c2,.slice a3 n3 c3,x4,x5,x6]] w fun e w'=>e=.returned (.bool (decide (n1=4/\n2=2 ^ l/\n3=2 ^ l)))/\Below w.heap.size w w':=by
 obtain⟨W1,hW1⟩:=exE ((w.alloc (.cells #[x,y,.int .i64 h,.int .i64 (l:Int)] 97)).alloc (.cells #[.slice a1 n1 c1,.slice a2 n2 c2,.slice a3 n3 c3,x4,x5,x6] 53));have hb1:Below w.heap.size w W1:=by rw[hW1];exact ((Below.refl _ _).alloc (Nat.le_refl _) _).alloc (by simp) _
 have hs1:W1.heap[w.heap.size]?=some (.cells #[x,y,.int .i64 h,.int .i64 (l:Int)] 97 (0,0)):=by rw[hW1];have:=heap_alloc_new w (.cells #[x,y,.int .i64 h,.int .i64 (l:Int)] 97);have hb:=(Below.refl (w.alloc (.cells #[x,y,.int .i64 h,.int .i64 (l:Int)] 97)).heap.size (w.alloc (.cells #[x,y,.int .i64 h,.int .i64 (l:Int)] 97))).alloc (Nat.le_refl _) (.cells #[.slice a1 n1 c1,.slice a2 n2 c2,.slice a3 n3 c3,x4,x5,x6] 53);exact (hb.block _ (by simp)).trans this
 have hs2:W1.heap[w.heap.size+1]?=some (.cells #[.slice a1 n1 c1,.slice a2 n2 c2,.slice a3 n3 c3,x4,x5,x6] 53 (0,0)):=by rw[hW1];have:=heap_alloc_new (w.alloc (.cells #[x,y,.int .i64 h,.int .i64 (l:Int)] 97)) (.cells #[.slice a1 n1 c1,.slice a2 n2 c2,.slice a3 n3 c3,x4,x5,x6] 53);simpa using this
 obtain⟨X,hX⟩:=exE (2 ^ l);obtain⟨G,hG⟩:=exE (w.heap.size);obtain⟨P,hP⟩:=exE (w.heap.size+1);rw[<- hG] at hs1;rw[<- hP] at hs2
 have HWI:Hid (∀ W,Below W1.heap.size W1 W->Calls Tryz.prog 80 #[.agg #[x,y,.int .i64 h,.int .i64 (l:Int)]] W fun e w'=>e=.returned (.int .i64 (X:Int))/\Below W1.heap.size W1 w'):=fun W hW=>by rw[hX];refine (Ms _ _ _ l W hl).mono ?_;rintro e w' ⟨rfl,h⟩;exact⟨rfl,hW.trans (h.mono hW.size)⟩
 have HK:Hid (∀ W,Below W1.heap.size W1 W->W.cell? ⟨G,0,none⟩=some x/\W.cell? ⟨G,1,none⟩=some y/\W.cell? ⟨G,2,none⟩=some (.int .i64 h)/\W.cell? ⟨G,3,none⟩=some (.int .i64 (l:Int))/\W.cell? ⟨P,0,none⟩=some (.slice a1 n1 c1)/\W.cell? ⟨P,1,none⟩=some (.slice a2 n2 c2)/\W.cell? ⟨P,2,none⟩=some (.slice a3 n3 c3)):=fun W hW=>by have e1:=(hW.block G (Array.getElem?_eq_some_iff.1 hs1).1).trans hs1;have e2:=(hW.block P (Array.getElem?_eq_some_iff.1 hs2).1).trans hs2;refine⟨?_,?_,?_,?_,?_,?_,?_⟩ <;> simp[World.cell?,e1,e2]
 have HE:Hid (∀ W,Below W1.heap.size W1 W->Below w.heap.size w W):=fun W hW=>hb1.trans (hW.mono hb1.size);have hdw:Below W1.heap.size W1 W1.drew:=(Below.refl _ _).drew;rw[<- hX];have HW1:=hid hW1;have HG:=hid hG;have HP:=hid hP;have HZ:Hid ((w.alloc (.cells #[x,y,.int .i64 h,.int .i64 (l:Int)] 97)).heap.size=w.heap.size+1):=by unfold Hid;simp
 clear hs1 hs2 hb1 hX hW1 hG hP hl;by_cases e1:n1=4
 ·have k1:((n1:Int)==4)=true:=by rw[e1];rfl
  by_cases e2:n2=X
  ·have k2:((n2:Int)==(X:Int))=true:=by rw[e2];exact beq_self_eq_true _
   by_cases e3:n3=X
   ·have HD:Hid (decide (n1=4/\n2=X/\n3=X)=true):=decide_eq_true ⟨e1,e2,e3⟩;have k3:((n3:Int)==(X:Int))=true:=by rw[e3];exact beq_self_eq_true _
    rw[HD.out];clear HD e1 e2 e3;go_enter Tryz.func37,Tryz.ntmps37;go_wp2_with fail;rw[<- HP.out,<- HG.out,<- HW1.out];clear HW1 HG HP HZ
    go_region_held3 (fun W=>W.cell? ⟨G,0,none⟩=some x/\W.cell? ⟨G,1,none⟩=some y/\W.cell? ⟨G,2,none⟩=some (.int .i64 h)/\W.cell? ⟨G,3,none⟩=some (.int .i64 (l:Int))/\W.cell? ⟨P,0,none⟩=some (.slice a1 n1 c1)/\W.cell? ⟨P,1,none⟩=some (.slice a2 n2 c2)/\W.cell? ⟨P,2,none⟩=some (.slice a3 n3 c3)) (exact HK.out _ (by assumption))
     (first
      | (go_at_call 80;refine (HWI.out _ (by assumption)).mono ?_;rintro e w' ⟨rfl,hb'⟩))
    all_goals
     go_wp2_with fail;go_ret;exact⟨rfl,HE.out _ (by assumption)⟩
   ·have HD:Hid (decide (n1=4/\n2=X/\n3=X)=false):=decide_eq_false (fun h=>e3 h.2.2);have k3:((n3:Int)==(X:Int))=false:=by rw[beq_eq_false_iff_ne];omega
    rw[HD.out];clear HD e1 e2 e3;go_enter Tryz.func37,Tryz.ntmps37;go_wp2_with fail;rw[<- HP.out,<- HG.out,<- HW1.out];clear HW1 HG HP HZ
    go_region_held3 (fun W=>W.cell? ⟨G,0,none⟩=some x/\W.cell? ⟨G,1,none⟩=some y/\W.cell? ⟨G,2,none⟩=some (.int .i64 h)/\W.cell? ⟨G,3,none⟩=some (.int .i64 (l:Int))/\W.cell? ⟨P,0,none⟩=some (.slice a1 n1 c1)/\W.cell? ⟨P,1,none⟩=some (.slice a2 n2 c2)/\W.cell? ⟨P,2,none⟩=some (.slice a3 n3 c3)) (exact HK.out _ (by assumption))
     (first
      | (go_at_call 80;refine (HWI.out _ (by assumption)).mono ?_;rintro e w' ⟨rfl,hb'⟩))
    all_goals
     go_wp2_with fail;go_ret;exact⟨rfl,HE.out _ (by assumption)⟩
  ·have HD:Hid (decide (n1=4/\n2=X/\n3=X)=false):=decide_eq_false (fun h=>e2 h.2.1);have k2:((n2:Int)==(X:Int))=false:=by rw[beq_eq_false_iff_ne];omega
   rw[HD.out];clear HD e1;go_enter Tryz.func37,Tryz.ntmps37;go_wp2_with fail;rw[<- HP.out,<- HG.out,<- HW1.out];clear HW1 HG HP HZ;refine wp_region_held_drew (S:=fun W=>W.cell? ⟨G,0,none⟩=some x/\W.cell? ⟨G,1,none⟩=some y/\W.cell? ⟨G,2,none⟩=some (.int .i64 h)/\W.cell? ⟨G,3,none⟩=some (.int .i64 (l:Int))/\W.cell? ⟨P,0,none⟩=some (.slice a1 n1 c1)/\W.cell? ⟨P,1,none⟩=some (.slice a2 n2 c2)/\W.cell? ⟨P,2,none⟩=some (.slice a3 n3 c3)) (by kernel_rfl) (HK.out W1.drew hdw) (fun hHeld=>?_);refine Aa 0 (.pointer (some ⟨P,0,none⟩)) ?_;simp only[Ac];refine Aa 1 (.slice a1 n1 c1) ?_;simp only[Ac];refine Aa 2 (.int .i64 (n1:Int)) ?_;simp only[Ac];refine Aa 3 (.bool true) ?_;simp only[Ac];refine Aa 4 (.bool true) ?_;simp only[Ac];refine Aa 5 (.pointer (some ⟨P,1,none⟩)) ?_;simp only[Ac];refine Aa 6 (.slice a2 n2 c2) ?_;simp only[Ac];refine Aa 7 (.int .i64 (n2:Int)) ?_;simp only[Ac];refine Aa 8 (.agg #[x,y,.int .i64 h,.int .i64 (l:Int)]) ?_;simp only[Ac];refine Ab 9 fun K' hK'=>?_;go_simp;refine (HWI.out _ hdw).mono ?_;rintro e w' ⟨rfl,hb'⟩;refine hK'.out _ _ (HK.out w' hb') (fun hHeld=>?_);clear hK' K';refine Aa 10 (.bool false) ?_;simp only[Ac];refine Aa 11 (.bool false) ?_;simp only[Ac];refine Aa 12 (.bool false) ?_;simp only[Ac];refine Ae 13 ?_;simp only[Ac];refine Ae 14 ?_;simp only[Ac];refine Ae 15 ?_;simp only[Ac];refine Ae 16 ?_;simp only[Ac];refine Ae 17 ?_;simp only[Ac];refine Ae 18 ?_;simp only[Ac];refine Aa 19 (.bool false) ?_;simp only[Ac];refine Aa 20 (.bool false) ?_;simp only[Ac];refine wpAnyH_done (by kernel_rfl) ?_ _;go_wp2_with fail;go_ret;exact⟨rfl,HE.out _ hb'⟩
 ·have HD:Hid (decide (n1=4/\n2=X/\n3=X)=false):=decide_eq_false (fun h=>e1 h.1);have k1:((n1:Int)==4)=false:=by rw[beq_eq_false_iff_ne];omega
  rw[HD.out];clear HD e1;go_enter Tryz.func37,Tryz.ntmps37;go_wp2_with fail;rw[<- HP.out,<- HG.out,<- HW1.out];clear HW1 HG HP HZ;refine wp_region_held_drew (S:=fun W=>W.cell? ⟨G,0,none⟩=some x/\W.cell? ⟨G,1,none⟩=some y/\W.cell? ⟨G,2,none⟩=some (.int .i64 h)/\W.cell? ⟨G,3,none⟩=some (.int .i64 (l:Int))/\W.cell? ⟨P,0,none⟩=some (.slice a1 n1 c1)/\W.cell? ⟨P,1,none⟩=some (.slice a2 n2 c2)/\W.cell? ⟨P,2,none⟩=some (.slice a3 n3 c3)) (by kernel_rfl) (HK.out W1.drew hdw) (fun hHeld=>?_);refine Aa 0 (.pointer (some ⟨P,0,none⟩)) ?_;simp only[Ac];refine Aa 1 (.slice a1 n1 c1) ?_;simp only[Ac];refine Aa 2 (.int .i64 (n1:Int)) ?_;simp only[Ac];refine Aa 3 (.bool false) ?_;simp only[Ac];refine Aa 4 (.bool false) ?_;simp only[Ac];refine Ae 5 ?_;simp only[Ac];refine Ae 6 ?_;simp only[Ac];refine Ae 7 ?_;simp only[Ac];refine Ae 8 ?_;simp only[Ac];refine Ae 9 ?_;simp only[Ac];refine Ae 10 ?_;simp only[Ac];refine Aa 11 (.bool false) ?_;simp only[Ac];refine Aa 12 (.bool false) ?_;simp only[Ac];refine Ae 13 ?_;simp only[Ac];refine Ae 14 ?_;simp only[Ac];refine Ae 15 ?_;simp only[Ac];refine Ae 16 ?_;simp only[Ac];refine Ae 17 ?_;simp only[Ac];refine Ae 18 ?_;simp only[Ac];refine Aa 19 (.bool false) ?_;simp only[Ac];refine Aa 20 (.bool false) ?_;simp only[Ac];refine wpAnyH_done (by kernel_rfl) ?_ _;go_wp2_with fail;go_ret;exact⟨rfl,HE.out _ hdw⟩
def wgI (p:Nat) (at':Nat->Int) (k:Nat):List Int:=ls (fun i=>Sum.wgt at' k i % (p:Int)) (2 ^ k)
theorem aAe (p:Nat) (at':Nat->Int) (k:Nat):(wgI p at' k).length=2 ^ k:=kQ _ _
theorem aED (p:Nat) (at':List Int):wgI p (zat at') at'.length=wgL p at':=rfl
theorem aDk (h3:3<=p) (at':Nat->Int):wgI p at' 0=[1]:=by
 simp[wgI,ls,Sum.wgt,Sum.prz];exact Int.emod_eq_of_lt (by omega) (by omega)
theorem aFA (at':Nat->Int) (k i:Nat):ls (fun j=>Sum.wgt at' (k+1) j % (p:Int)) (2*i)++[(Sum.wgt at' k i % (p:Int))*((1-at' k) % (p:Int)) % (p:Int),(Sum.wgt at' k i % (p:Int))*at' k % (p:Int)]=ls (fun j=>Sum.wgt at' (k+1) j % (p:Int)) (2*(i+1)):=by
 rw[show 2*(i+1)=2*i+1+1 from by omega,Po,Po,List.append_assoc]
 congr 1
 have h0:Sum.wgt at' (k+1) (2*i)=_:=Jw at' k i 0 (by omega);have h1:=Jw at' k i 1 (by omega);rw[if_pos rfl] at h0;rw[if_neg (by omega)] at h1;rw[h0,h1];have e0:Sum.wgt at' k i % (p:Int)*((1-at' k) % (p:Int)) % (p:Int)=Sum.wgt at' k i*(1-at' k) % (p:Int):=by rw[<- Int.mul_emod]
 have e1:Sum.wgt at' k i % (p:Int)*at' k % (p:Int)=Sum.wgt at' k i*at' k % (p:Int):=by rw[Int.mul_emod,Int.emod_emod,<- Int.mul_emod]
 rw[e0,e1];rfl
theorem aDl{x y:Int} (h:w.ownsRow base 3 1 v (zs.length+2) (zs.map (Value.int .i64)++[.int .i64 x,.int .i64 y])):w.ownsRow base 3 1 v (zs++[x,y]).length ((zs++[x,y]).map (Value.int .i64)):=by
 simpa using h
theorem aFB (W:World) (x:Int):(W.alloc (.cells #[.int .i64 x] 3)).ownsRow W.heap.size 3 1 (.slice (some ⟨W.heap.size,0,none⟩) 1 1) [x].length ([x].map (Value.int .i64)) :=
 ⟨by simp,.inr ⟨W.heap.size,1,#[.int .i64 x],rfl,Nat.le_refl _,heap_alloc_new W _,by simp,by decide,by simp,by simp⟩⟩
theorem Uo (p b cap:Nat) (y:Value) (hi lo:Int) (a:Option Addr) (at':List Int) (w:World) (h3:3<=p) (hm:p<=2147483647) (hp:w.cell? ⟨b,0,none⟩=some (.int .i64 p)) (hv:at'.length<=12) (hf:Fits at') (hr:RowB w.heap.size w a at') :
  Calls Tryz.prog 76 #[.agg #[.pointer (some ⟨b,0,none⟩),y,.int .i64 hi,.int .i64 lo],.slice a at'.length cap] w fun e w'=>∃ v,e=.returned v/\w'.ownsRow w.heap.size 3 1 v (wgL p at').length ((wgL p at').map (Value.int .i64))/\Below w.heap.size w w':=by
 have hmx:Tryz.prog.follows .mixedOrders=true:=by kernel_rfl
 obtain⟨i0,hi0,hz0,hz1,hz2⟩:=info_parts Tryz.infoInt;have hbl:=qK hp;obtain⟨W1,hW1⟩:=exE (w.alloc (.cells #[.pointer (some ⟨b,0,none⟩),y,.int .i64 hi,.int .i64 lo] 97));obtain⟨G,hG⟩:=exE (w.heap.size);have hb1:=blA hW1;have hs1:W1.heap[G]?=some (.cells #[.pointer (some ⟨b,0,none⟩),y,.int .i64 hi,.int .i64 lo] 97 (0,0)):=by rw[hW1,hG];exact heap_alloc_new w _
 have hz:W1.heap.size=w.heap.size+1:=by rw[hW1];simp
 have HGB:Hid (∀ W,Below W1.heap.size W1 W->W.cell? ⟨G,0,none⟩=some (.pointer (some ⟨b,0,none⟩))/\W.cell? ⟨b,0,none⟩=some (.int .i64 p)):=fun W hW=>by have e1:=(hW.block G (Array.getElem?_eq_some_iff.1 hs1).1).trans hs1;exact⟨by simp[World.cell?,e1],(hW.cell (p:=⟨b,0,none⟩) (by show b<_;omega)).trans ((hb1.cell (p:=⟨b,0,none⟩) hbl).trans hp)⟩
 have HE:Hid (∀ W,Below W1.heap.size W1 W->Below w.heap.size w W):=fun W hW=>hb1.trans (hW.mono hb1.size)
 have HRO:Hid (∀ W,Below W1.heap.size W1 W->RowB W.heap.size W a at'):=fun W hW=>by have:=hb1.trans (hW.mono hb1.size);exact (hr.below this).mono this.size
 have HF:=hid hf;obtain⟨n,hnn⟩:=exE (at'.length);have HN:=hid hnn;rw[<- hnn] at hv ⊢;have HWE:Hid (wgI p (zat at') n=wgL p at'):=by unfold Hid;rw[hnn];exact aED p at'
 have HW0:=hid (aDk h3 (zat at'));have HOM:Hid (∀ (W:World) v m xs,W.ownsRow W1.heap.size 3 1 v m xs->W.ownsRow w.heap.size 3 1 v m xs):=fun W v m xs h=>h.mono hb1.size;have HW1:=hid hW1;have HG:=hid hG;have HZ:=hid hz;clear hp hr hf hs1 hnn hb1 hW1 hG hz;go_enter Tryz.func76,Tryz.ntmps76;go_wp2_with fail;rw[<- HG.out,<- HW1.out]
 have HO1:Hid ((W1.alloc (.cells #[.int .i64 1] 3)).ownsRow W1.heap.size 3 1 (.slice (some ⟨G+1,0,none⟩) 1 1) (wgI p (zat at') 0).length ((wgI p (zat at') 0).map (Value.int .i64))):=by unfold Hid;rw[HW0.out,HG.out,<- HZ.out];exact aFB W1 1
 have HB1:Hid (Below W1.heap.size W1 (W1.alloc (.cells #[.int .i64 1] 3))):=(Below.refl _ _).alloc (Nat.le_refl _) _;clear HW1 HG HW0;go_loopw [5,14] (fun ov iv wr=>∃ k:Nat,k<=n/\iv=.int .i64 (k:Int)/\Hid (wr.ownsRow W1.heap.size 3 1 ov (wgI p (zat at') k).length ((wgI p (zat at') k).map (Value.int .i64))/\Below W1.heap.size W1 wr)) (fun _ iv _=>n-(intOf iv).toNat)
 case atStart=>exact⟨0,by omega,rfl,HO1.out,HB1.out⟩
 case round =>
  obtain⟨k,hk,rfl,hI⟩:=hrel;obtain⟨Wo,hWo⟩:=exE (wr);subst hWo;by_cases hlt:k<n
  ·have hlt2:(k:Int)<(n:Int):=by omega
   have hks:IntKind.i64.wrap ((k:Int)+1)=(k:Int)+1:=by rw[IntKind.wrap_i64];omega
   obtain⟨b0,o0,rfl,hb0,hx0⟩:=HRO.out Wo hI.out.2 k (by rw[<- HN.out];exact hlt);obtain⟨f1,f2⟩:=HF.out.all k;have HST:Hid (∀ i,ls (fun j=>Sum.wgt (zat at') (k+1) j % (p:Int)) (2*i)++[(Sum.wgt (zat at') k i % (p:Int))*((1-zat at' k) % (p:Int)) % (p:Int),(Sum.wgt (zat at') k i % (p:Int))*zat at' k % (p:Int)]=ls (fun j=>Sum.wgt (zat at') (k+1) j % (p:Int)) (2*(i+1))):=fun i=>aFA (zat at') k i;obtain⟨ao,co,hov,hlo'⟩:=kY hI.out.1;rw[aAe] at hov;have hpk:2 ^ k<=4096:=Nat.pow_le_pow_right (n:=2) (by decide) (show k<=12 by omega)
   have HLO:Hid (∀ i,i<2 ^ k->∃ b o,ao=some ⟨b,o,none⟩/\b<Wo.heap.size/\Wo.cell? ⟨b,o+i,none⟩=some (.int .i64 (Sum.wgt (zat at') k i % (p:Int)))):=fun i hi=>by obtain⟨b,o,q1,q2,q3⟩:=hlo'.row i (by rw[aAe];exact hi);refine⟨b,o,q1,q2,?_⟩;rw[q3];unfold wgI;rw[kZ _ _ _ hi]
   have HEN:Hid (wgI p (zat at') (k+1)=ls (fun j=>Sum.wgt (zat at') (k+1) j % (p:Int)) (2*2 ^ k)):=by unfold Hid wgI;rw[Nat.pow_succ,Nat.mul_comm]
   subst hov;obtain⟨m,hm'⟩:∃ m,m=2 ^ k:=⟨_,rfl⟩
   rw[<- hm'] at HLO HEN hpk;simp only[<- hm'];have HBW:=hid hI.out.2;have HSU:=hid (fun (W:World) (h:Below W1.heap.size W1 W)=>Ej p b 1 (zat at' k) W h3 hm (HGB.out W h).2 (by omega) (by omega) f1 f2);obtain⟨t1,t2⟩:=qQ (1-zat at' k) p h3;generalize zat at' k=r at *;obtain⟨u,hu⟩:=exE ((1-r) % (p:Int));simp only[<- hu] at HST HSU t1 t2;obtain⟨B,hB⟩:∃ B:Nat->Int,B=fun j=>Sum.wgt (zat at') (k+1) j % (p:Int):=⟨_,rfl⟩
   obtain⟨Z,hZ⟩:∃ Z:Nat->Int,Z=fun j=>Sum.wgt (zat at') k j % (p:Int):=⟨_,rfl⟩
   have HZB:Hid (∀ i,0<=Z i/\Z i<p):=fun i=>by rw[hZ];exact qQ _ p h3
   have HST2:Hid (∀ i,ls B (2*i)++[Z i*u % (p:Int),Z i*r % (p:Int)]=ls B (2*(i+1))):=fun i=>by rw[hB,hZ];exact HST.out i
   have HLO2:Hid (∀ i,i<m->∃ b o,ao=some ⟨b,o,none⟩/\b<Wo.heap.size/\Wo.cell? ⟨b,o+i,none⟩=some (.int .i64 (Z i))):=fun i hi=>by rw[hZ];exact HLO.out i hi
   rw[<- hB] at HEN;clear hI hlo' HST HLO hB hZ hm' hu;go_wp2_with fail;go_loopw [8,20] (fun nv jv wj=>∃ i:Nat,i<=m/\jv=.int .i64 (i:Int)/\Hid (wj.ownsRow Wo.heap.size 3 1 nv (ls B (2*i)).length ((ls B (2*i)).map (Value.int .i64))/\Below Wo.heap.size Wo wj)) (fun _ jv _=>m-(intOf jv).toNat)
   case atStart=>exact⟨0,by omega,rfl,World.ownsRow_nil _ _ _ _,Below.refl _ _⟩
   case round =>
    obtain⟨i,hi,rfl,hJ⟩:=hrel;by_cases hit:i<m
    ·have hit2:(i:Int)<(m:Int):=by omega
     have his:IntKind.i64.wrap ((i:Int)+1)=(i:Int)+1:=by rw[IntKind.wrap_i64];omega
     obtain⟨bz,oz,rfl,hbz,hz3⟩:=HLO2.out i hit;have y1:=(hJ.out.2.cell (p:=⟨bz,oz+i,none⟩) hbz).trans hz3;have hzb:=HZB.out i;have HSC:=hid (HST2.out i);have hbw:Below W1.heap.size W1 wr:=HBW.out.trans (hJ.out.2.mono HBW.out.size);obtain⟨x1,x2⟩:=HGB.out wr hbw;have HSUB:=hid (HSU.out wr.drew hbw.drew);have HMU1:=hid (kK p b (Z i) u wr.drew h3 hm (HGB.out wr.drew hbw.drew).2 (by omega) (by omega) (by omega) (by omega));have HMU2:=hid (kK p b (Z i) r wr.drew h3 hm (HGB.out wr.drew hbw.drew).2 (by omega) (by omega) f1 f2);generalize Z i*u % (p:Int)=e1 at *;generalize Z i*r % (p:Int)=e2 at *;generalize Z i=z at *;have HOWN:=hid hJ.out.1;have HBEL:=hid hJ.out.2;have HLS:=hid (kQ B (2*i));generalize ls B (2*i)=Y at *;have hY:Y.length<=8192:=by rw[HLS.out];omega
     have hsz:Wo.heap.size<=wr.heap.size:=hJ.out.2.size;clear hJ hbw hz3;go_wp2_with fail;refine wp_region_held_drew (S:=fun W=>W.cell? ⟨G,0,none⟩=some (.pointer (some ⟨b,0,none⟩))/\W.cell? ⟨b,0,none⟩=some (.int .i64 p)) (by kernel_rfl) (⟨x1,x2⟩) (fun hHeld=>?_);refine Aa 0 (u8) ?_;simp only[Ac];refine Aa 1 (.pointer (some ⟨G,0,none⟩)) ?_;simp only[Ac];refine Aa 2 (.pointer (some ⟨b,0,none⟩)) ?_;simp only[Ac];refine Aa 3 (.int .i64 z) ?_;simp only[Ac];refine Aa 4 (.pointer (some ⟨G,0,none⟩)) ?_;simp only[Ac];refine Aa 5 (.pointer (some ⟨b,0,none⟩)) ?_;simp only[Ac];refine Aa 6 (.int .i64 r) ?_;simp only[Ac];refine Aa 9 (.pointer (some ⟨G,0,none⟩)) ?_;simp only[Ac];refine Aa 10 (.pointer (some ⟨b,0,none⟩)) ?_;simp only[Ac];refine Aa 11 (.int .i64 z) ?_;simp only[Ac];refine Aa 12 (.int .i64 r) ?_;simp only[Ac];refine Ab 7 fun K' hK'=>?_;go_simp;refine (HSUB.out).mono ?_;rintro e w' ⟨rfl,hw'⟩;have hw'':=hw'.symm;subst hw'';refine hK'.out _ _ (hHeld) (fun hHeld=>?_);clear hK' K' hw';refine Ab 8 fun K' hK'=>?_;go_simp;refine (HMU1.out).mono ?_;rintro e w' ⟨rfl,hw'⟩;have hw'':=hw'.symm;subst hw'';refine hK'.out _ _ (hHeld) (fun hHeld=>?_);clear hK' K' hw';refine Ab 13 fun K' hK'=>?_;go_simp;refine (HMU2.out).mono ?_;rintro e w' ⟨rfl,hw'⟩;have hw'':=hw'.symm;subst hw'';refine hK'.out _ _ (hHeld) (fun hHeld=>?_);clear hK' K' hw';refine Ab 14 fun K' hK'=>?_;go_simp;obtain⟨WA,hWA⟩:=exE ((wr.alloc (.cells #[.int .i64 e1,.int .i64 e2] 3)).drew);have hbA:Below wr.heap.size wr WA:=by rw[hWA];exact ((Below.refl _ _).alloc (Nat.le_refl _) _).drew
     have hcA:WA.heap[wr.heap.size]?=some (.cells #[.int .i64 e1,.int .i64 e2] 3 (0,0)):=by rw[hWA];exact heap_alloc_new wr _
     have hOA:WA.ownsRow Wo.heap.size 3 1 u8 Y.length (Y.map (Value.int .i64)):=xV HOWN.out hbA;have hBA:Below Wo.heap.size Wo WA:=HBEL.out.trans (hbA.mono hsz);rw[<- hWA];refine hK'.out _ _ (HGB.out _ (HBW.out.trans (hBA.mono HBW.out.size))) (fun hHeld=>?_);clear hK' K'
     obtain⟨v',w5,hrun,hown2,hgrow,_,hwhere⟩:=run_append_own_at WA Wo.heap.size 25 25 3 i0 _ 1 8 Tryz.underlying25 hi0 hz0 hz1 hz2 rfl (by decide) u8 _ _ hOA ⟨wr.heap.size,0,none⟩ 2 2 [.int .i64 e1,.int .i64 e2] rfl (by
      intro j u hj;have hadd:(⟨wr.heap.size,0,none⟩:Addr).add j=⟨wr.heap.size,j,none⟩:=by unfold Addr.add;split <;> simp_all
      rw[hadd];simp only[World.cell?,hcA]
      simpa using hj) (by intro u hu;simp at hu;rcases hu with rfl | rfl <;> rfl) (by unfold maxLen;omega) (by omega) hBA.size
     have hown3:=aDl hown2;have hB5:Below Wo.heap.size Wo w5:=hBA.grown hgrow hBA.size (fun j hj=>(hOA.lt j hj).1)
     have HE5:Hid (w5.ownsRow Wo.heap.size 3 1 v' (ls B (2*(i+1))).length ((ls B (2*(i+1))).map (Value.int .i64))/\Below Wo.heap.size Wo w5):=by unfold Hid;rw[<- HSC.out];exact⟨hown3,hB5⟩
     have HH5:=hid (HGB.out _ (HBW.out.trans (hB5.mono HBW.out.size)));clear hown2 hown3 hgrow hwhere hB5 hOA hBA hcA hbA;refine Ab 15 fun K' hK'=>?_;rw[if_pos (by rfl)];refine xX _ _ 25 25 rfl _ _ v' rfl rfl hrun ?_;refine hK'.out _ _ HH5.out (fun hHeld=>?_);clear hK' K' hrun;simp only[Ac];refine Ab 16 fun K' hK'=>?_;go_simp;refine hK'.out _ _ hHeld (fun _=>?_);clear hK' K' hHeld;refine wpAnyH_done (by kernel_rfl) ?_ _;go_wp2_with fail;go_roundw
     case rel=>exact⟨i+1,by omega,by go_num,HE5⟩
     case measure=>simp[intOf];omega
    ·obtain rfl:i=m:=by omega
     have hit2:¬ (i:Int)<(i:Int):=by omega
     have HE6:Hid (World.ownsRow _ W1.heap.size 3 1 _ (wgI p (zat at') (k+1)).length ((wgI p (zat at') (k+1)).map (Value.int .i64))/\Below W1.heap.size W1 _):=⟨by rw[HEN.out];exact hJ.out.1.mono HBW.out.size,HBW.out.trans (hJ.out.2.mono HBW.out.size)⟩
     clear hJ;go_wp2_with fail;go_roundw
     case rel=>exact⟨k+1,by omega,by go_num,HE6⟩
     case measure=>simp[intOf];omega
  ·obtain rfl:k=n:=by omega
   have hlt2:¬ (k:Int)<(k:Int):=by omega
   have HE7:Hid (Wo.ownsRow w.heap.size 3 1 _ (wgL p at').length ((wgL p at').map (Value.int .i64))/\Below w.heap.size w Wo):=⟨by rw[<- HWE.out];exact HOM.out _ _ _ _ hI.out.1,HE.out _ hI.out.2⟩
   clear hI;go_wp2_with fail;go_ret;exact⟨_,rfl,HE7.out⟩
theorem Mv (b:Nat) (r:Int) (w:World) :
  Calls Tryz.prog 38 #[.pointer (some ⟨b,0,none⟩),.int .i64 r] w fun e w'=>∃ B0 B1,e=.returned (.func (.func 81) #[] #[.pointer (some ⟨B0,0,none⟩),.pointer (some ⟨B1,0,none⟩)])/\B0<w'.heap.size/\B1<w'.heap.size/\w'.cell? ⟨B0,0,none⟩=some (.pointer (some ⟨b,0,none⟩))/\w'.cell? ⟨B1,0,none⟩=some (.int .i64 r)/\Below w.heap.size w w'/\w.heap.size<=B0/\w.heap.size<=B1:=by
 obtain⟨W1,hW1⟩:=exE (w.alloc (.cells #[.pointer (some ⟨b,0,none⟩)] 29));obtain⟨W2,hW2⟩:=exE (W1.alloc (.cells #[.int .i64 r] 3));have hs1:=haA hW1;have hs2:=haA hW2;have hb1:=blA hW1;have hb2:=blA hW2;have hz1:W1.heap.size=w.heap.size+1:=by rw[hW1];simp
 have hz2:W2.heap.size=w.heap.size+2:=by rw[hW2];simp[hz1]
 have HE:Hid (w.heap.size<W2.heap.size/\W1.heap.size<W2.heap.size/\W2.cell? ⟨w.heap.size,0,none⟩=some (.pointer (some ⟨b,0,none⟩))/\W2.cell? ⟨W1.heap.size,0,none⟩=some (.int .i64 r)/\Below w.heap.size w W2/\w.heap.size<=w.heap.size/\w.heap.size<=W1.heap.size) :=
  ⟨by omega,by omega,(hb2.cell (p:=⟨w.heap.size,0,none⟩) (by show w.heap.size<W1.heap.size;omega)).trans (by simp[World.cell?,hs1]),by simp[World.cell?,hs2],hb1.trans (hb2.mono (by omega)),Nat.le_refl _,by omega⟩
 have HZ:=hid hz1;clear hs1 hs2 hb1 hb2 hz1 hz2;go_enter Tryz.func38,Tryz.ntmps38;go_wp2_with fail;go_ret;refine⟨_,_,rfl,?_⟩;rw[hW2,hW1] at HE;have:=HE.out;rw[<- hW1,HZ.out] at this;rw[hW1] at this;exact this
theorem Up (p b B0 B1 cap:Nat) (r:Int) (a:Option Addr) (zs:List Int) (w:World) (h3:3<=p) (hm:p<=2147483647) (hp:w.cell? ⟨b,0,none⟩=some (.int .i64 p)) (h0:w.cell? ⟨B0,0,none⟩=some (.pointer (some ⟨b,0,none⟩))) (h1:w.cell? ⟨B1,0,none⟩=some (.int .i64 r))
  (hn:zs.length<=281474976710656) (hfit:Fits zs) (hr1:-9223372036854775808<=r) (hr2:r<=9223372036854775807) (hrow:RowB w.heap.size w a zs) :
  Calls Tryz.prog 81 #[.slice a zs.length cap,.pointer (some ⟨B0,0,none⟩),.pointer (some ⟨B1,0,none⟩)] w fun e w'=>e=.returned (.int .i64 (evz p zs r))/\Below w.heap.size w w':=by
 have HE:=hid (Fz p b cap (·<w.heap.size) a zs r w h3 hm hp hn hfit hr1 hr2 (hrow.p (fun _ h=>h)));generalize evz p zs r=E at *;generalize zs.length=n at *;clear hfit hrow;go_enter Tryz.func81,Tryz.ntmps81;go_wp2_with fail;refine HE.out.mono ?_;rintro e w1 ⟨rfl,n1,rfl⟩;go_wp2_with fail;go_ret;exact⟨rfl,below_drewN (Below.refl _ _) n1⟩
theorem Rc (h:w.ownsRow base 3 1 v zs.length (zs.map (Value.int .i64))):∃ a cap,v=.slice a zs.length cap/\Lst w.heap.size w a cap zs/\aBw base w a zs:=by
 obtain⟨a,cap,e,l⟩:=kY h;refine⟨a,cap,e,l,fun k hk=>?_⟩;obtain⟨b,o,e1,e2,e3⟩:=l.row k hk;have:=h.lt b (by rw[e,e1];rfl);exact⟨b,o,e1,this,e3⟩
structure ExQ (w:World) (lo B0 B1 b:Nat) (L:List Int):Prop where
 f:w.cell? ⟨B0,0,none⟩=some (.pointer (some ⟨b,0,none⟩))
 lo0:lo<=B0
 lo1:lo<=B1
 w':∃ aw cw,w.cell? ⟨B1,0,none⟩=some (.slice aw L.length cw)/\Lst w.heap.size w aw cw L/\aBw lo w aw L
theorem ExQ.blocks (h:ExQ w lo B0 B1 b L) (hs:w.heap.size<=W.heap.size) (e:∀ k,lo<=k->k<w.heap.size->W.heap[k]?=w.heap[k]?):ExQ W lo B0 B1 b L:=by
 obtain⟨h1,l0,l1,aw,cw,h2,h3,h4⟩:=h;have hc:∀ {x:Addr} {v:Value},lo<=x.block->w.cell? x=some v->W.cell? x=some v:=fun {x v} hl hx=>(World.cell?_of_block (w:=w) (e x.block hl (World.block_lt_of_cell? _ _ hx))).trans hx
 exact⟨hc l0 h1,l0,l1,aw,cw,hc l1 h2,⟨fun k hk=>by
  obtain⟨b',o',e1,e2,e3⟩:=h4 k hk
  exact⟨b',o',e1,Nat.lt_of_lt_of_le e2.2 hs,hc e2.1 e3⟩,h3.room,h3.nil⟩,fun k hk=>by
  obtain⟨b',o',e1,e2,e3⟩:=h4 k hk
  exact⟨b',o',e1,⟨e2.1,Nat.lt_of_lt_of_le e2.2 hs⟩,hc e2.1 e3⟩⟩
theorem ExQ.below (h:ExQ w lo B0 B1 b L) (e:Below w.heap.size w W):ExQ W lo B0 B1 b L:=h.blocks e.size (fun k _ hk=>e.block k hk)
theorem Dg (p b cap:Nat) (y:Value) (hi lo:Int) (a:Option Addr) (at':List Int) (w:World) (h3:3<=p) (hm:p<=2147483647) (hp:w.cell? ⟨b,0,none⟩=some (.int .i64 p)) (hv:at'.length<=12) (hf:Fits at') (hr:RowB w.heap.size w a at') :
  Calls Tryz.prog 35 #[.agg #[.pointer (some ⟨b,0,none⟩),y,.int .i64 hi,.int .i64 lo],.slice a at'.length cap] w fun e w'=>∃ B0 B1,e=.returned (.func (.func 77) #[] #[.pointer (some ⟨B0,0,none⟩),.pointer (some ⟨B1,0,none⟩)])/\ExQ w' w.heap.size B0 B1 b (wgL p at')/\Below w.heap.size w w':=by
 obtain⟨W1,hW1⟩:=exE (w.alloc (.cells #[.pointer (some ⟨b,0,none⟩),y,.int .i64 hi,.int .i64 lo] 97));obtain⟨G,hG⟩:=exE (w.heap.size);have hb1:=blA hW1;have hs1:W1.heap[G]?=some (.cells #[.pointer (some ⟨b,0,none⟩),y,.int .i64 hi,.int .i64 lo] 97 (0,0)):=by rw[hW1,hG];exact heap_alloc_new w _
 have HWG:=hid (Uo p b cap y hi lo a at' W1 h3 hm ((hb1.cell (p:=⟨b,0,none⟩) (qK hp)).trans hp) hv hf ((hr.below hb1).mono hb1.size))
 have HEX:Hid (∀ (W:World) (v:Value),Below W1.heap.size W1 W->W.ownsRow W1.heap.size 3 1 v (wgL p at').length ((wgL p at').map (Value.int .i64))->ExQ (W.alloc (.cells #[v] 25)) w.heap.size G W.heap.size b (wgL p at')/\Below w.heap.size w (W.alloc (.cells #[v] 25))):=fun W v hW ho=>by
  have hb2:Below W.heap.size W (W.alloc (.cells #[v] 25)):=(Below.refl _ _).alloc (Nat.le_refl _) _;obtain⟨aw,cw,rfl,hl,hnw⟩:=Rc ho;have e1:=(hb2.block G (Nat.lt_of_lt_of_le (Array.getElem?_eq_some_iff.1 hs1).1 hW.size)).trans ((hW.block G (Array.getElem?_eq_some_iff.1 hs1).1).trans hs1);have e2:=heap_alloc_new W (.cells #[.slice aw (wgL p at').length cw] 25);generalize W.alloc (.cells #[.slice aw (wgL p at').length cw] 25)=W2 at *
  exact⟨⟨by simp[World.cell?,e1],by omega,Nat.le_trans hb1.size hW.size,aw,cw,by simp[World.cell?,e2],(hl.below hb2).mono hb2.size,fun k hk=>by
   obtain⟨b',o',e1,e2,e3⟩:=hnw k hk
   exact⟨b',o',e1,⟨Nat.le_trans hb1.size e2.1,Nat.lt_of_lt_of_le e2.2 hb2.size⟩,(hb2.cell (p:=⟨b',o'+k,none⟩) e2.2).trans e3⟩⟩,(hb1.trans (hW.mono hb1.size)).trans (hb2.mono (Nat.le_trans hb1.size hW.size))⟩
 have g0:=clA 0 hs1 rfl;have g1:W1.cell? ⟨G,1,none⟩=some y:=by simp[World.cell?,hs1]
 have g2:=clA 2 hs1 rfl;have g3:=clA 3 hs1 rfl;generalize at'.length=n at *;have HW1:=hid hW1;have HG:=hid hG;clear hp hr hf hs1 hb1 hW1 hG hv;go_enter Tryz.func35,Tryz.ntmps35;go_wp2_with fail;rw[<- HG.out,<- HW1.out];clear HW1 HG g0 g1 g2 g3;refine HWG.out.mono ?_;rintro e w2 ⟨v,rfl,ho,hb2⟩;have HX:=hid (HEX.out w2 v hb2 ho);obtain⟨aw,cw,rfl,_⟩:=kY ho;clear HEX ho hb2 HWG;generalize (wgL p at').length=m at *;go_wp2_with fail;go_ret;exact⟨_,_,rfl,HX.out⟩
theorem Hj (p b lo B0 B1 cap:Nat) (a:Option Addr) (zs L:List Int) (w:World) (h3:3<=p) (hm:p<=2147483647) (hp:w.cell? ⟨b,0,none⟩=some (.int .i64 p)) (hX:ExQ w lo B0 B1 b L) (hn:zs.length<=L.length) (hn2:zs.length<=281474976710656) (hf:Fits zs) (hfL:Fits L) (hr:RowB w.heap.size w a zs) :
  Calls Tryz.prog 77 #[.slice a zs.length cap,.pointer (some ⟨B0,0,none⟩),.pointer (some ⟨B1,0,none⟩)] w fun e w'=>e=.returned (.int .i64 (dtz p zs.length zs L))/\Below w.heap.size w w':=by
 have hmx:Tryz.prog.follows .mixedOrders=true:=by kernel_rfl
 obtain⟨hx0,_,_,aw,cw,hx1,hlw,_⟩:=hX;have HR1:=hid hr;have HR2:=hid hlw.row;have HF1:=hid hf;have HF2:=hid hfL
 have HKP:Hid (∀ W,Below w.heap.size w W->W.cell? ⟨B0,0,none⟩=some (.pointer (some ⟨b,0,none⟩))/\W.cell? ⟨B1,0,none⟩=some (.slice aw L.length cw)/\W.cell? ⟨b,0,none⟩=some (.int .i64 p)):=fun W hW =>
  ⟨(hW.cell (p:=⟨B0,0,none⟩) (qK hx0)).trans hx0,(hW.cell (p:=⟨B1,0,none⟩) (qK hx1)).trans hx1,(hW.cell (p:=⟨b,0,none⟩) (qK hp)).trans hp⟩
 obtain⟨n,hnn⟩:=exE (zs.length);obtain⟨m,hmm⟩:=exE (L.length);rw[<- hnn,<- hmm] at hn;rw[<- hnn] at hn2 ⊢;rw[<- hmm] at HKP;have HN:=hid hnn;have HM:=hid hmm;obtain⟨S,hS⟩:∃ S:Nat->Int,S=fun k=>dtz p k zs L:=⟨_,rfl⟩
 have HS1:Hid (∀ k,(S k+zat zs k*zat L k % (p:Int)) % (p:Int)=S (k+1)):=fun k=>by rw[hS];exact aCw p k zs L
 have HS2:Hid (∀ k,0<=S k/\S k<p):=fun k=>by rw[hS];exact Lo p k zs L h3
 have HS0:Hid (S 0=0):=by unfold Hid;rw[hS];exact aCv p zs L
 rw[show dtz p n zs L=S n from by rw[hS]];clear hf hfL hr hlw hx0 hx1 hp hnn hmm hS;go_enter Tryz.func77,Tryz.ntmps77;go_wp2_with fail;go_loopw [5,10] (fun sv iv wr=>∃ k:Nat,k<=n/\iv=.int .i64 (k:Int)/\sv=.int .i64 (S k)/\Hid (Below w.heap.size w wr)) (fun _ iv _=>n-(intOf iv).toNat)
 case atStart=>exact⟨0,by omega,rfl,by rw[HS0.out],Below.refl _ _⟩
 case round =>
  obtain⟨k,hk,rfl,rfl,hI⟩:=hrel;by_cases hlt:k<n
  ·have hlt2:(k:Int)<(n:Int):=by omega
   have hlt3:(k:Int)<(m:Int):=by omega
   have hks:IntKind.i64.wrap ((k:Int)+1)=(k:Int)+1:=by rw[IntKind.wrap_i64];omega
   obtain⟨b1,o1,rfl,hb1,x1⟩:=HR1.out k (by rw[<- HN.out];exact hlt);obtain⟨b2,o2,rfl,hb2,x2⟩:=HR2.out k (by rw[<- HM.out];omega);have y1:=(hI.out.cell (p:=⟨b1,o1+k,none⟩) hb1).trans x1;have y2:=(hI.out.cell (p:=⟨b2,o2+k,none⟩) hb2).trans x2;obtain⟨z1,z2,z3⟩:=HKP.out wr hI.out;obtain⟨f1,f2⟩:=HF1.out.all k;obtain⟨g1,g2⟩:=HF2.out.all k;have s1:=HS2.out k;have HS3:=hid (HS1.out k);have HMU:=hid (kK p b (zat zs k) (zat L k) wr.drew h3 hm (HKP.out _ hI.out.drew).2.2 f1 f2 g1 g2);obtain⟨t1,t2⟩:=qQ (zat zs k*zat L k) p h3;generalize zat zs k*zat L k % (p:Int)=t at *;generalize zat zs k=x at *;generalize zat L k=y at *;have HAD:=hid (yV p b (S k) t wr.drew h3 hm (HKP.out _ hI.out.drew).2.2 (by omega) (by omega) (by omega) (by omega));rw[HS3.out] at HAD;clear x1 x2 HS3;go_wp2_with fail;go_still_tail 12,hmx
   still_call HMU.out
   repeat still_step
   still_call HAD.out
   repeat still_step
   refine wpStill_nil ?_;go_wp2_with fail;go_roundw
   case rel=>exact⟨k+1,by omega,by go_num,rfl,hI.out.drew⟩
   case measure=>simp[intOf];omega
  ·obtain rfl:k=n:=by omega
   have hlt2:¬ (k:Int)<(k:Int):=by omega
   go_wp2_with fail;go_ret;exact⟨rfl,hI.out⟩
end Go.Proofs.YtkdndfbfmchcpaaGreatDoor
