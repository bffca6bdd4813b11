
import Derived.Test.YtkdndfbfmchcpaaGreatDoorRefs
set_option maxRecDepth 1000000
set_option maxHeartbeats 8000000
namespace Go.Proofs.YtkdndfbfmchcpaaGreatDoor
variable {A B:World}{a:Option Addr}{cap n n0 n1 p v:Nat}{inputs:List Int}{wide:Int}
open Go.RowKit
structure GatZ where
 kind:Int
 a:Int
 b:Int
instance:Inhabited GatZ:=⟨⟨0,0,0⟩⟩
def gat (gs:List GatZ) (k:Nat):GatZ:=gs.getD k ⟨0,0,0⟩
def lyt (ls:List (List GatZ)) (k:Nat):List GatZ:=ls.getD k []
structure LstG (n0:Nat) (w:World) (a:Option Addr) (cap:Nat) (gs:List GatZ):Prop where
 row:∀ k,k<gs.length->∃ b o,a=some ⟨b,o,none⟩/\b<n0/\w.cell? ⟨b,o+k*3,none⟩=some (.int .i64 (gat gs k).kind)/\w.cell? ⟨b,o+k*3+1,none⟩=some (.int .i64 (gat gs k).a)/\w.cell? ⟨b,o+k*3+2,none⟩=some (.int .i64 (gat gs k).b)
 room:gs.length<=cap
 nil:a=none->cap=0
theorem LstG.below{gs:List GatZ} (r:LstG n0 A a cap gs) (h:Below n0 A B):LstG n0 B a cap gs :=
 ⟨fun k hk=>by
  obtain⟨b,o,h1,h2,h3,h4,h5⟩:=r.row k hk
  exact⟨b,o,h1,h2,(h.cell (p:=⟨b,o+k*3,none⟩) h2).trans h3,(h.cell (p:=⟨b,o+k*3+1,none⟩) h2).trans h4,(h.cell (p:=⟨b,o+k*3+2,none⟩) h2).trans h5⟩,r.room,r.nil⟩
theorem LstG.mono{gs:List GatZ} (r:LstG n0 A a cap gs) (h:n0<=n1):LstG n1 A a cap gs :=
 ⟨fun k hk=>by
  obtain⟨b,o,h1,h2,h3⟩:=r.row k hk
  exact⟨b,o,h1,by omega,h3⟩,r.room,r.nil⟩
structure LstGG (n0:Nat) (w:World) (a:Option Addr) (cap:Nat) (ls:List (List GatZ)):Prop where
 row:∀ k,k<ls.length->∃ b o ak ck,a=some ⟨b,o,none⟩/\b<n0/\w.cell? ⟨b,o+k,none⟩=some (.slice ak (lyt ls k).length ck)/\LstG n0 w ak ck (lyt ls k)
 room:ls.length<=cap
 nil:a=none->cap=0
theorem LstGG.below{ls:List (List GatZ)} (r:LstGG n0 A a cap ls) (h:Below n0 A B):LstGG n0 B a cap ls :=
 ⟨fun k hk=>by
  obtain⟨b,o,ak,ck,h1,h2,h3,h4⟩:=r.row k hk
  exact⟨b,o,ak,ck,h1,h2,(h.cell (p:=⟨b,o+k,none⟩) h2).trans h3,h4.below h⟩,r.room,r.nil⟩
theorem LstGG.mono{ls:List (List GatZ)} (r:LstGG n0 A a cap ls) (h:n0<=n1):LstGG n1 A a cap ls :=
 ⟨fun k hk=>by
  obtain⟨b,o,ak,ck,h1,h2,h3,h4⟩:=r.row k hk
  exact⟨b,o,ak,ck,h1,by omega,h3,h4.mono h⟩,r.room,r.nil⟩
theorem LstGG.step{ls:List (List GatZ)} (r:LstGG A.heap.size A a cap ls) (h:Below A.heap.size A B):LstGG B.heap.size B a cap ls:=(r.below h).mono h.size
theorem LstG.step{gs:List GatZ} (r:LstG A.heap.size A a cap gs) (h:Below A.heap.size A B):LstG B.heap.size B a cap gs:=(r.below h).mono h.size
def Bz (x:Int):Prop:=-9223372036854775808<=x/\x<=9223372036854775807
def Vr (gs:List GatZ):Prop:=∀ k,k<gs.length->Bz (gat gs k).kind/\Bz (gat gs k).a/\Bz (gat gs k).b
structure CirB (ls:List (List GatZ)):Prop where
 len:ls.length<=281474976710656
 lens:∀ k,k<ls.length->(lyt ls k).length<=281474976710656
 fit:∀ k,k<ls.length->Vr (lyt ls k)
def wdz (n:Nat):Int:=match (List.range 7).find? (fun v=>n==2 ^ v) with
 | some v=>v
 | none=>-1
theorem Yw (hv:v<=6) (h:n=2 ^ v):wdz n=v:=by
 unfold wdz
 have e:(List.range 7).find? (fun u=>n==2 ^ u)=some v:=by rw[List.find?_range_eq_some];refine⟨by simp[h],by simp;omega,fun j hj=>?_⟩;simp only[h,Bool.not_eq_true',beq_eq_false_iff_ne,ne_eq];intro e;have:=Nat.pow_lt_pow_right (a:=2) (by omega) hj;omega
 rw[e]
theorem aFd (h:∀ v,v<=6->n≠2 ^ v):wdz n=-1:=by
 unfold wdz
 have e:(List.range 7).find? (fun u=>n==2 ^ u)=none:=by rw[List.find?_range_eq_none];intro i hi;have:=h i (by omega);simp[this]
 rw[e]
theorem Vs (h:0<=wdz n):∃ v:Nat,v<=6/\n=2 ^ v/\wdz n=v:=by
 by_cases e:∃ v,v<=6/\n=2 ^ v
 ·obtain⟨v,h1,h2⟩:=e;exact⟨v,h1,h2,Yw h1 h2⟩
 ·have:=aFd (n:=n) (fun v hv h2=>e ⟨v,hv,h2⟩);omega
theorem Yx (n:Nat):0<=wdz n↔∃ v:Nat,v<=6/\n=2 ^ v:=by
 constructor
 ·intro h;obtain⟨v,h1,h2,_⟩:=Vs h;exact⟨v,h1,h2⟩
 ·rintro⟨v,h1,h2⟩;rw[Yw h1 h2];omega
theorem Dn (h:v<=6):2 ^ v<=64:=by
 have:2 ^ v<=2 ^ 6:=Nat.pow_le_pow_right (by omega) h;omega
def bnz (wide:Int) (ls:List (List GatZ)) (i:Nat):Int:=if i=0 then wide else wdz (lyt ls (i-1)).length
def SzC (wide:Int) (ls:List (List GatZ)):Prop:=(0<=wide/\wide<=6)/\(1<=ls.length/\ls.length<=8)/\∀ k,k<ls.length->0<=wdz (lyt ls k).length
def GtO (n:Nat) (g:GatZ):Prop:=(0<=g.kind/\g.kind<=1)/\(0<=g.a/\g.a<(n:Int))/\(0<=g.b/\g.b<(n:Int))
instance (n:Nat) (g:GatZ):Decidable (GtO n g):=by unfold GtO;exact inferInstance
def GtC (wide:Int) (ls:List (List GatZ)):Prop:=∀ i,i<ls.length->∀ k,k<(lyt ls i).length->GtO (2 ^ (bnz wide ls i).toNat) (gat (lyt ls i) k)
noncomputable def flt (wide:Int) (ls:List (List GatZ)):Int:=@ite _ (SzC wide ls) (Classical.propDecidable _) (@ite _ (GtC wide ls) (Classical.propDecidable _) 0 3) 2
theorem aBy{ls:List (List GatZ)} (h:¬ SzC wide ls):flt wide ls=2:=by unfold flt;rw[if_neg h]
theorem aA2{ls:List (List GatZ)} (h:SzC wide ls) (k:¬ GtC wide ls):flt wide ls=3:=by unfold flt;rw[if_pos h,if_neg k]
theorem aBz{ls:List (List GatZ)} (h:SzC wide ls) (k:GtC wide ls):flt wide ls=0:=by unfold flt;rw[if_pos h,if_pos k]
theorem Br{ls:List (List GatZ)} (h:flt wide ls=0):SzC wide ls/\GtC wide ls:=by
 unfold flt at h;by_cases h1:SzC wide ls
 ·rw[if_pos h1] at h;by_cases h2:GtC wide ls
  ·exact⟨h1,h2⟩
  ·rw[if_neg h2] at h;omega
 ·rw[if_neg h1] at h;omega
def bnn (wide:Int) (ls:List (List GatZ)) (i:Nat):Nat:=(bnz wide ls i).toNat
theorem SzC.bn{ls:List (List GatZ)} (h:SzC wide ls) {i:Nat} (hi:i<=ls.length):bnz wide ls i=(bnn wide ls i:Int)/\bnn wide ls i<=6:=by
 unfold bnn bnz;by_cases e:i=0
 ·rw[if_pos e];have:=h.1;omega
 ·rw[if_neg e];obtain⟨v,h1,_,h2⟩:=Vs (h.2.2 (i-1) (by omega));rw[h2];omega
theorem SzC.own{ls:List (List GatZ)} (h:SzC wide ls) {i:Nat} (hi:i<ls.length):(lyt ls i).length=2 ^ bnn wide ls (i+1)/\wdz (lyt ls i).length=(bnn wide ls (i+1):Int):=by
 obtain⟨v,h1,h2,h3⟩:=Vs (h.2.2 i hi)
 have e:bnn wide ls (i+1)=v:=by unfold bnn bnz;rw[if_neg (by omega),Nat.add_sub_cancel,h3];rfl
 rw[e];exact⟨h2,h3⟩
def jnz (p:Nat) (kind x y:Int):Int:=if kind=0 then (x+y) % (p:Int) else x*y % (p:Int)
theorem Ez (p:Nat) (kind x y:Int) (h3:3<=p):0<=jnz p kind x y/\jnz p kind x y<p:=by
 unfold jnz;split <;> exact qQ _ p h3
def gvl (p:Nat) (l:List Int) (gs:List GatZ):List Int:=ls (fun i=>jnz p (gat gs i).kind (zat l (gat gs i).a.toNat) (zat l (gat gs i).b.toNat)) gs.length
theorem Yy (p:Nat) (l:List Int) (gs:List GatZ):(gvl p l gs).length=gs.length:=kQ _ _
def gvs (p:Nat) (lys:List (List GatZ)) (inputs:List Int):Nat->List Int
 | 0=>ls (fun i=>zat inputs i % (p:Int)) inputs.length
 | i+1=>gvl p (gvs p lys inputs i) (lyt lys i)
def gva (p:Nat) (lys:List (List GatZ)) (inputs:List Int) (n:Nat):List (List Int):=(List.range n).map (gvs p lys inputs)
theorem Fs (p:Nat) (lys:List (List GatZ)) (inputs:List Int) (n:Nat):(gva p lys inputs n).length=n:=by simp[gva]
theorem aDF{lys:List (List GatZ)}{i:Nat} (h:i<n):rat (gva p lys inputs n) i=gvs p lys inputs i:=by simp[rat,gva,h]
theorem aB0 (p:Nat) (lys:List (List GatZ)) (inputs:List Int) (n:Nat):gva p lys inputs (n+1)=gva p lys inputs n++[gvs p lys inputs n]:=by simp[gva,List.range_succ]
theorem aDG (h3:3<=p) (lys:List (List GatZ)) (inputs:List Int) (i:Nat):∀ j,j<(gvs p lys inputs i).length->0<=zat (gvs p lys inputs i) j/\zat (gvs p lys inputs i) j<p:=fun j hj=>by
 cases i with
 | zero =>
  unfold gvs at hj ⊢;rw[kQ] at hj;rw[kZ _ _ _ hj];exact qQ _ p h3
 | succ i =>
  unfold gvs gvl at hj ⊢;rw[kQ] at hj;rw[kZ _ _ _ hj];exact Ez _ _ _ _ h3
theorem Kq (h3:3<=p) (hm:p<=2147483647) (lys:List (List GatZ)) (inputs:List Int) (i:Nat):Fits (gvs p lys inputs i):=fun j hj=>by
 have:=aDG h3 lys inputs i j hj;omega
theorem Pp{lys:List (List GatZ)} (h:SzC wide lys) (hi:inputs.length=2 ^ wide.toNat) {i:Nat} (hl:i<=lys.length):(gvs p lys inputs i).length=2 ^ bnn wide lys i:=by
 cases i with
 | zero =>
  unfold gvs;rw[kQ,hi];rfl
 | succ i =>
  unfold gvs;rw[Yy];exact (h.own (by omega)).1
end Go.Proofs.YtkdndfbfmchcpaaGreatDoor
