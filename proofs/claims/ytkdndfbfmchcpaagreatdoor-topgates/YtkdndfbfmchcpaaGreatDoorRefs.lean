
import Derived.Test.YtkdndfbfmchcpaaGreatDoorDoms
set_option maxRecDepth 1000000
set_option maxHeartbeats 8000000
namespace Go.Proofs.YtkdndfbfmchcpaaGreatDoor
variable {A:World}{a:Option Addr}{cap m n n0 q:Nat}{ps xs ys zs:List Int}{rows:List (List Int)}{x:Int}
open Go.RowKit
def cst (q:Nat) (r i:Int):Int:=if r<0∨7<r∨i<0∨7<i then 0 else ((8*r+i+1) ^ 5+3) % (q:Int)
theorem Wd (q:Nat) (r i:Int) (h3:3<=q):0<=cst q r i/\cst q r i<q:=by
 unfold cst;split
 ·omega
 ·exact qQ _ q h3
theorem aDT (q:Nat) (a:Int) (n:Nat) (h3:3<=q):((Num.pwm q (el q a) n:Nat):Int)=a ^ n % (q:Int):=by
 rw[Num.pwm_cast,Jr q a h3,Pol.emod_eq_iff (by omega)];exact Dom.pow_congr (Pol.emod_dvd q a) n
def mxs (q:Nat) (f:Nat->Int) (i k:Nat):Int:=Dom.sm (fun j=>f j*(yX q ((i+j+8:Nat):Int):Int) % (q:Int)) k % (q:Int)
def mx (q:Nat) (f:Nat->Int) (i:Nat):Int:=mxs q f i 8
theorem aBE (q:Nat) (f:Nat->Int) (i k:Nat):(mxs q f i k+f k*(yX q ((i+k+8:Nat):Int):Int) % (q:Int)) % (q:Int)=mxs q f i (k+1):=by
 unfold mxs;simp only[Dom.sm];rw[Int.add_emod,Int.emod_emod_of_dvd _ (Int.dvd_refl _),<- Int.add_emod]
def Dq (q n:Nat) (f:Nat->Int):Nat->Nat->Int
 | 0,j=>f j % (q:Int)
 | k+1,j=>mx q (fun i=>(Dq q n f k i+cst q k i) ^ n % (q:Int)) j
theorem aA9 (q:Nat) (f:Nat->Int) (j:Nat) (h3:3<=q):0<=mx q f j/\mx q f j<q:=qQ _ q h3
theorem Dr (q n:Nat) (f:Nat->Int) (k j:Nat) (h3:3<=q):0<=Dq q n f k j/\Dq q n f k j<q:=by
 cases k with
 | zero=>exact qQ _ q h3
 | succ k=>exact aA9 _ _ _ h3
def pdf (q:Nat) (f:Nat->Int) (n j:Nat):Int:=if j<n then f j % (q:Int) else if j=n then 1 else 0
def pln (n:Nat):Nat:=4*(n / 4+1)
def Ci (q:Nat) (s P:Nat->Int) (t:Nat) (j:Nat):Int:=if j<4 then (s j+P (4*t+j)) % (q:Int) else s j
def hst (q n:Nat) (P:Nat->Int):Nat->Nat->Int
 | 0,_=>0
 | t+1,j=>Dq q n (Ci q (hst q n P t) P t) 8 j
theorem Fc (q n:Nat) (P:Nat->Int) (t j:Nat) (h3:3<=q):0<=hst q n P t j/\hst q n P t j<q:=by
 cases t with
 | zero=>exact⟨Int.le_refl _,by show (0:Int)<q;omega⟩
 | succ t=>exact Dr _ _ _ _ _ h3
theorem We (q:Nat) (f:Nat->Int) (n j:Nat) (h3:3<=q):0<=pdf q f n j/\pdf q f n j<q:=by
 unfold pdf;split
 ·exact qQ _ q h3
 ·split <;> omega
def aAA (q:Nat) (xs ys:List Int):Bool:=decide (xs.map (· % (q:Int))=ys.map (· % (q:Int)))
theorem aAB (hl:xs.length=ys.length) (h:∀ j,j<xs.length->zat xs j % (q:Int)=zat ys j % (q:Int)):aAA q xs ys=true:=by
 unfold aAA;rw[decide_eq_true_eq];refine List.ext_getElem (by simpa using hl) (fun j h1 h2=>?_);rw[List.length_map] at h1 h2;have:=h j h1;simpa [zat,h1,h2] using this
theorem aFk:∀ (b a:Nat),∃ x y:Int,(a:Int)*x+(b:Int)*y=(Nat.gcd a b:Nat):=by
 intro b
 induction b using Nat.strongRecOn with
 | _ b ih =>
  intro a;by_cases h:b=0
  ·subst h;exact⟨1,0,by simp⟩
  ·obtain⟨x,y,hxy⟩:=ih (a % b) (Nat.mod_lt _ (by omega)) b;refine⟨y,x-(a / b:Nat)*y,?_⟩;have h1:Nat.gcd b (a % b)=Nat.gcd a b:=by rw[Nat.gcd_comm b (a % b),<- Nat.gcd_rec,Nat.gcd_comm]
   rw[<- h1,<- hxy]
   have h2:(a:Int)=(b:Int)*((a / b:Nat):Int)+((a % b:Nat):Int):=by
    have:=Nat.div_add_mod a b
    exact_mod_cast this.symm
   generalize ((a / b:Nat):Int)=d at *;generalize ((a % b:Nat):Int)=m at *;rw[h2]
   grind
theorem aBF (hm:2<=m) (h:Nat.gcd n m=1):∃ d:Nat,n*d % m=1:=by
 obtain⟨x,y,hxy⟩:=aFk m n;rw[h] at hxy;have h0:0<=x % (m:Int):=Int.emod_nonneg _ (by omega);refine⟨(x % (m:Int)).toNat,?_⟩
 have h1:((n*(x % (m:Int)).toNat % m:Nat):Int)=1:=by
  push_cast
  rw[Int.toNat_of_nonneg h0,Int.mul_emod,Int.emod_emod_of_dvd _ (Int.dvd_refl _),<- Int.mul_emod];have e:(n:Int)*x=1+(m:Int)*(-y):=by rw[Int.mul_neg];push_cast at hxy;omega
  rw[e,Int.add_mul_emod_self_left];exact Int.emod_eq_of_lt (by omega) (by omega)
 exact_mod_cast h1
theorem aBG{f g:Nat->Int} (hq:0<q) (h:∀ j,j<8->f j % (q:Int)=g j % (q:Int)) (i:Nat):mx q f i=mx q g i:=by
 unfold mx mxs;rw[Pol.emod_eq_iff hq];refine Dom.sm_congr (fun j hj=>?_);rw[show f j*(yX q ((i+j+8:Nat):Int):Int) % (q:Int)=g j*(yX q ((i+j+8:Nat):Int):Int) % (q:Int) from by rw[Int.mul_emod,h j hj,<- Int.mul_emod],Int.sub_self];exact Int.dvd_zero _
theorem Kz {q n:Nat} {f g:Nat->Int} (hq:0<q) (h:∀ j,j<8->f j % (q:Int)=g j % (q:Int)):∀ k j,j<8->Dq q n f k j=Dq q n g k j
 | 0,j,hj=>h j hj
 | k+1,j,_=>aBG hq (fun i hi=>by rw[Kz hq h k i hi]) j
theorem aBH (w:World) (x:Int):(w.alloc (.cells #[.int .i64 x] 3)).ownsRow w.heap.size 3 1 (.slice (some ⟨w.heap.size,0,none⟩) 1 1) [x].length ([x].map (Value.int .i64)) :=
 ⟨by simp,.inr ⟨w.heap.size,1,#[.int .i64 x],rfl,Nat.le_refl _,heap_alloc_new w _,Nat.le_refl _,by unfold maxLen;omega,rfl,by simp⟩⟩
theorem Av{ops:Array Oper}{rest:List Oper}{o:Oper}{act:Act}{Q:Exit->Act->World->Prop} (W:World) (base n0:Nat) (hgd:o.guard=none) (s x:Operand)
  (ho:o.op=.call { callee:=.builtin .append,args:=#[s,x],argTypes:=#[25,25] }) (v:Value) (hs:act.eval s=v) (zs ys:List Int)
  (hown:W.ownsRow base 3 1 v zs.length (zs.map (Value.int .i64))) (av:Option Addr) (cap:Nat) (hx:act.eval x=.slice av ys.length cap) (hlen:zs.length+ys.length<=17592186044416) (hbase:base<=W.heap.size) (hl:Lst n0 W av cap ys)
  (h:∀ v' w2,w2.ownsRow base 3 1 v' (zs++ys).length ((zs++ys).map (Value.int .i64))->Below base W w2->wpList Tryz.prog ops Q rest (act.put o.dst v') w2) :
  wpList Tryz.prog ops Q (o :: rest) act W:=by
 obtain⟨i0,hi,hz0,hz1,hz2⟩:=info_parts Tryz.infoInt;cases av with
 | none =>
  have hc:=hl.nil rfl;have hr:=hl.room;obtain rfl:cap=0:=hc;obtain rfl:ys=[]:=List.length_eq_zero_iff.1 (by omega);refine wpList_append_own_none hgd s x 25 ho base 3 i0 1 Tryz.underlying25 hi _ _ _ hs hown hx ?_;exact h v W (by rw[List.append_nil];exact hown) (Below.refl _ _)
 | some ad =>
  refine wpList_append_own _ hgd s x 25 ho base 3 i0 (.int .i64 0) 1 8 Tryz.underlying25 hi hz0 hz1 hz2 rfl (by decide) _ _ _ hs hown ad ys.length cap (ys.map (Value.int .i64)) hx (by simp) ?_ ?_ (by unfold maxLen;omega) (by omega) hbase ?_
  ·intro j u hu
   have hj:j<ys.length:=by
    rcases Nat.lt_or_ge j ys.length with g | g
    ·exact g
    ·simp[g] at hu
   obtain⟨b,off,h1,h2,h5⟩:=hl.row j hj;cases h1;have hadd:(⟨b,off,none⟩:Addr).add j=⟨b,off+j,none⟩:=by unfold Addr.add;split <;> simp_all
   rw[hadd];refine h5.trans ?_;simp[zat,hj] at hu ⊢;exact hu
  ·intro u hu;obtain⟨y,_,rfl⟩:=List.mem_map.1 hu;rfl
  ·intro v' w2 hown2 hgrow _;refine h v' w2 ?_ ((Below.refl base W).grown hgrow hbase (fun k hk=>(hown.lt k hk).1));rw[List.length_append,List.map_append];exact hown2
def digl (q n:Nat) (l:List Int):List Int:=ls (hst q n (pdf q (zat l) l.length) (l.length / 4+1)) 4
theorem yK (q n:Nat) (l:List Int):(digl q n l).length=4:=kQ _ _
theorem Ic (h3:3<=q) (h4:q<=2147483647) (n:Nat) (l:List Int):Fits (digl q n l):=fun j hj=>by
 rw[yK] at hj;unfold digl;rw[kZ _ _ _ hj];have:=Fc q n (pdf q (zat l) l.length) (l.length / 4+1) j h3;omega
theorem zX (hx:-9223372036854775808<=x/\x<=9223372036854775807) (h:Fits zs):Fits (x :: zs):=fun j hj=>by
 cases j with
 | zero=>simpa [zat] using hx
 | succ j=>simpa [zat] using h j (by simpa using hj)
theorem yU (h1:Fits xs) (h2:Fits ys):Fits (xs++ys):=fun j hj=>by
 by_cases g:j<xs.length
 ·have:=h1 j g;simpa [zat,List.getElem?_append,g] using this
 ·have:=h2 (j-xs.length) (by rw[List.length_append] at hj;omega);simpa [zat,List.getElem?_append,g] using this
def Jl:Nat->Nat->Nat->Nat
 | 0,m,_=>m
 | k+1,m,n=>if m*2<n then Jl k (m*2) n else m
def lft (n:Nat):Nat:=Jl n 1 n
theorem Id:∀ (k m n:Nat),1<=m->n<=m+k->n<=2*Jl k m n/\m<=Jl k m n/\(Jl k m n=m∨Jl k m n<n)
 | 0,m,n,h1,h2=>⟨by simp only[Jl];omega,Nat.le_refl _,Or.inl rfl⟩
 | k+1,m,n,h1,h2=>by
  simp only[Jl];by_cases h:m*2<n
  ·rw[if_pos h];obtain⟨a,b,c⟩:=Id k (m*2) n (by omega) (by omega);exact⟨a,by omega,Or.inr (by omega)⟩
  ·rw[if_neg h];exact⟨by omega,Nat.le_refl _,Or.inl rfl⟩
theorem zJ (n:Nat):n<=2*lft n/\1<=lft n/\(2<=n->lft n<n):=by
 obtain⟨a,b,c⟩:=Id n 1 n (Nat.le_refl _) (by omega);exact⟨a,b,fun h=>by unfold lft;omega⟩
def rat (rows:List (List Int)) (k:Nat):List Int:=rows.getD k []
structure LstR (n0:Nat) (w:World) (a:Option Addr) (cap:Nat) (rows:List (List Int)):Prop where
 row:∀ k,k<rows.length->∃ b o ak ck,a=some ⟨b,o,none⟩/\b<n0/\w.cell? ⟨b,o+k,none⟩=some (.slice ak (rat rows k).length ck)/\Lst n0 w ak ck (rat rows k)
 room:rows.length<=cap
 nil:a=none->cap=0
theorem LstR.below{B:World} (h:Below n0 A B) (r:LstR n0 A a cap rows):LstR n0 B a cap rows :=
 ⟨fun k hk=>by
  obtain⟨b,o,ak,ck,h1,h2,h3,h4⟩:=r.row k hk
  exact⟨b,o,ak,ck,h1,h2,(h.cell (p:=⟨b,o+k,none⟩) h2).trans h3,h4.below h⟩,r.room,r.nil⟩
theorem LstR.mono{n1:Nat} (h:n0<=n1) (r:LstR n0 A a cap rows):LstR n1 A a cap rows :=
 ⟨fun k hk=>by
  obtain⟨b,o,ak,ck,h1,h2,h3,h4⟩:=r.row k hk
  exact⟨b,o,ak,ck,h1,by omega,h3,h4.mono h⟩,r.room,r.nil⟩
theorem Sl{k:Nat} (h:k<m):rat (rows.take m) k=rat rows k:=by
 unfold rat;simp[h]
theorem La (rows:List (List Int)) (m k:Nat):rat (rows.drop m) k=rat rows (m+k):=by
 unfold rat;simp[List.getElem?_drop]
def Ak (rows:List (List Int)):Prop:=∀ k,k<rows.length->Fits (rat rows k)/\(rat rows k).length<=17592186044000
def rtf (q n:Nat):Nat->List (List Int)->List Int
 | 0,_=>[]
 | k+1,rows=>if rows.length=1 then digl q n (0 :: rat rows 0) else digl q n (1 :: (rtf q n k (rows.take (lft rows.length))++rtf q n k (rows.drop (lft rows.length))))
theorem Ek (q n k:Nat) (rows:List (List Int)) (h:1<=k):(rtf q n k rows).length=4:=by
 cases k with
 | zero=>omega
 | succ k=>simp only[rtf];split <;> exact yK _ _ _
theorem Sm (h3:3<=q) (h4:q<=2147483647) (n k:Nat) (rows:List (List Int)):Fits (rtf q n k rows):=by
 cases k with
 | zero=>intro j hj;simp[rtf] at hj
 | succ k=>simp only[rtf];split <;> exact Ic h3 h4 _ _
theorem Ds (q n:Nat):∀ (k j:Nat) (rows:List (List Int)),1<=rows.length->rows.length<=k->k<=j->rtf q n j rows=rtf q n k rows
 | 0,_,rows,h1,h2,_=>by omega
 | k+1,j,rows,h1,h2,h3=>by
  obtain⟨j',rfl⟩:∃ j',j=j'+1:=⟨j-1,by omega⟩
  simp only[rtf];by_cases h:rows.length=1
  ·rw[if_pos h,if_pos h]
  ·rw[if_neg h,if_neg h];obtain⟨_,l2,l3⟩:=zJ rows.length;have:=l3 (by omega);rw[Ds q n k j' _ (by rw[List.length_take];omega) (by rw[List.length_take];omega) (by omega),Ds q n k j' _ (by rw[List.length_drop];omega) (by rw[List.length_drop];omega) (by omega)]
def smb (ps:List Int) (a b:Int):Bool:=ps.any (fun x=>decide (a<=x/\x<b))
theorem Pv{a b:Int}:smb ps a b=true↔∃ j,j<ps.length/\a<=zat ps j/\zat ps j<b:=by
 unfold smb;rw[List.any_eq_true];constructor
 ·rintro⟨x,hx,h⟩;obtain⟨j,hj,rfl⟩:=List.getElem_of_mem hx;exact⟨j,hj,by simpa [zat,hj] using h⟩
 ·rintro⟨j,hj,h⟩;exact⟨ps[j],List.getElem_mem hj,by simpa [zat,hj] using h⟩
def Asc (os:List Int):Prop:=os.Pairwise (· < ·)
def OnceIs (ps os:List Int):Prop:=Asc os/\∀ x,x∈os↔x∈ps
theorem Lc:∀ {us vs:List Int},Asc us->Asc vs->(∀ x,x∈us↔x∈vs)->us=vs
 | [],[],_,_,_=>rfl
 | [],b :: vs,_,_,h=>absurd ((h b).2 (List.mem_cons_self ..)) (by simp)
 | a :: us,[],_,_,h=>absurd ((h a).1 (List.mem_cons_self ..)) (by simp)
 | a :: us,b :: vs,h1,h2,h=>by
  have ha:=List.pairwise_cons.1 h1;have hb:=List.pairwise_cons.1 h2
  have e:a=b:=by
   rcases List.mem_cons.1 ((h a).1 (List.mem_cons_self ..)) with g | g
   ·exact g
   ·rcases List.mem_cons.1 ((h b).2 (List.mem_cons_self ..)) with k | k
    ·exact k.symm
    ·have:=hb.1 a g;have:=ha.1 b k;omega
  subst e;rw[Lc ha.2 hb.2 (fun x=>?_)];constructor
  ·intro hx;rcases List.mem_cons.1 ((h x).1 (List.mem_cons_of_mem _ hx)) with g | g
   ·have:=ha.1 x hx;omega
   ·exact g
  ·intro hx;rcases List.mem_cons.1 ((h x).2 (List.mem_cons_of_mem _ hx)) with g | g
   ·have:=hb.1 x hx;omega
   ·exact g
theorem OnceIs.unique{us vs:List Int} (h:OnceIs ps us) (k:OnceIs ps vs):us=vs:=Lc h.1 k.1 (fun x=>(h.2 x).trans (k.2 x).symm)
theorem Ld:∀ {os ps:List Int},Asc os->(∀ x,x∈os->x∈ps)->os.length<=ps.length
 | [],_,_,_=>Nat.zero_le _
 | a :: os,ps,h,hs=>by have ha:=List.pairwise_cons.1 h;have hm:=hs a (List.mem_cons_self ..);have:=Ld (os:=os) (ps:=ps.erase a) ha.2 (fun x hx=>(List.mem_erase_of_ne (by have:=ha.1 x hx;omega)).2 (hs x (List.mem_cons_of_mem _ hx)));rw[List.length_erase_of_mem hm] at this;have hp:0<ps.length:=List.length_pos_of_mem hm;simp only[List.length_cons];omega
theorem Gb{j:Nat} (h:j<zs.length):zat zs j∈zs:=by
 rw[show zat zs j=zs[j] from by simp[zat,h]];exact List.getElem_mem h
theorem Pw (h:x∈zs):∃ j,j<zs.length/\zat zs j=x:=by
 obtain⟨i,hi,rfl⟩:=List.getElem_of_mem h;exact⟨i,hi,by simp[zat,hi]⟩
end Go.Proofs.YtkdndfbfmchcpaaGreatDoor
