
import Derived.Test.YtkdndfbfmchcpaaGreatDoorTres
import Derived.Test.YtkdndfbfmchcpaaGreatDoorEnds
import Derived.Deep.Matrix
import Derived.Deep.Strs
import Derived.Lib.SmallJoins
set_option maxRecDepth 1000000
set_option maxHeartbeats 8000000
namespace Go.Proofs.YtkdndfbfmchcpaaGreatDoor
variable {W:World}{a:Option Addr}{cap fuel len:Nat}{v:Value}
open Go.ChangeShapes Go.WideShapes Go.RowKit Go.Deep
theorem Ee {H:Type} {P:Program} {e:TypeId}:∀ {ds:List (DataW H)} {j:Nat} {d:DataW H},ds[j]?=some d->∀ n∈d.weights P e,n∈DataW.weightsAll P e ds
 | [],_,_,h,_,_=>by simp at h
 | d0 :: ds,0,d,h,n,hn=>by
  simp only[List.getElem?_cons_zero,Option.some.injEq] at h;subst h;simp only[DataW.weightsAll,List.mem_append];exact Or.inl hn
 | d0 :: ds,j+1,d,h,n,hn=>by simp only[List.getElem?_cons_succ] at h;simp only[DataW.weightsAll,List.mem_append];exact Or.inr (Ee h n hn)
theorem Yg{H:Type}{ts:List TypeId}{ds:List (DataW H)}{j:Nat}{t:TypeId}{d:DataW H} (hsz:(DataW.weightsEach Tryz.prog ts ds).all (·<=reachBytes)=true) (ht:ts[j]?=some t) (hd:ds[j]?=some d):∀ n∈d.weights Tryz.prog t,n<=reachBytes :=
 fun n hn=>by simpa using List.all_eq_true.1 hsz n (DataW.weights_mem_each ht hd n hn)
theorem Ho{a:Addr} (h:W.cell? (a.add 0)=some v):∃ b o,a=⟨b,o,none⟩:=by
 obtain⟨b,off,spot⟩:=a;have hspot:spot=none:=by simpa [Addr.add] using World.cell?_spot h
 subst hspot;exact⟨b,off,rfl⟩
theorem Jf{b o:Nat} (h:W.cell? ⟨b,o,none⟩=some v):b<W.heap.size:=by
 rcases Nat.lt_or_ge b W.heap.size with g | g
 ·exact g
 ·simp[World.cell?,Array.getElem?_eq_none g] at h
open Go.ChangeShapes Go.WideShapes Go.RowKit Go.Deep Go.Joins
def Rh {H:Type} (d:DataW H) (s:List GatZ):Prop:=(d=.nil/\s=[])∨∃ elems spare,d=.slice elems spare/\elems.length=s.length
theorem aFH{α:Type}{l:List α} (h:l.length=3):∃ a b c,l=[a,b,c]:=by
 match l,h with
 | [a,b,c],_=>exact⟨a,b,c,rfl⟩
theorem Yh{H:Type}{enc:TypeId × Value->H}{d:DataW H}{pl:List MemPlace}
  (hf:DataW.trod enc Tryz.prog W 0 (fun _=>true) true fuel 62 (Value.slice a len cap).cells.toList=some (d,pl)) :
  ∃ s:List GatZ,len=s.length/\LstG W.heap.size W a cap s/\Vr s/\Rh d s:=by
 rcases open_slice Tryz.underlying62 hf with ⟨hcs,hx⟩ | ⟨x,l,c,m,n,D,Pl,hcs,_,hl,hm,hmm,hx,hall⟩
 ·simp[Value.cells] at hcs;obtain⟨rfl,rfl,rfl⟩:=hcs;simp only[Prod.mk.injEq] at hx;exact⟨[],rfl,⟨fun k hk=>by simp at hk,by simp,fun _=>rfl⟩,fun k hk=>by simp at hk,Or.inl ⟨hx.1,rfl⟩⟩
 ·simp[Value.cells] at hcs;obtain⟨rfl,rfl,rfl⟩:=hcs;simp only[if_true] at hmm;subst hmm;simp only[Prod.mk.injEq] at hx
  have each:∀ i,i<m->∃ y:GatZ,W.cell? (x.add (i*3))=some (.int .i64 y.kind)/\W.cell? (x.add (i*3+1))=some (.int .i64 y.a)/\W.cell? (x.add (i*3+2))=some (.int .i64 y.b) /\
    ((Lit.int .i64 y.kind).wf=true/\(Lit.int .i64 y.a).wf=true/\(Lit.int .i64 y.b).wf=true):=fun i hi=>by
   obtain⟨cs',h1,h2⟩:=hall i hi;rw[show Tryz.prog.cellsOf 61=3 from by kernel_rfl] at h1;obtain⟨_,hlen,hcell⟩:=World.cells?_some h1;obtain⟨v0,v1,v2,rfl⟩:=aFH hlen;obtain⟨y0,y1,y2,n',hxx,_,g0,g1,g2⟩:=trod_struct3 Tryz.underlying61 h2;have e0:=hcell 0 (by omega);have e1:=hcell 1 (by omega);have e2:=hcell 2 (by omega);rw[add_add] at e0 e1 e2;have k1:Tryz.prog.cellsOf 3=1:=by kernel_rfl
   simp only[k1] at g0 g1 g2;obtain⟨N0,p0,_,q0⟩:=DataW.trod_int Tryz.underlying3 (by simpa using g0);obtain⟨N1,p1,_,q1⟩:=DataW.trod_int Tryz.underlying3 (by simpa using g1);obtain⟨N2,p2,_,q2⟩:=DataW.trod_int Tryz.underlying3 (by simpa using g2);simp only[List.cons.injEq,and_true] at p0 p1 p2;subst p0;subst p1;subst p2;exact⟨⟨N0,N1,N2⟩,by simpa using e0,by simpa using e1,by simpa using e2,q0,q1,q2⟩
  obtain⟨Y,hY⟩:=choose_lt each;obtain⟨s,hs⟩:∃ s:List GatZ,s=(List.range len).map fun r=>Y r:=⟨_,rfl⟩
  have hlen:s.length=len:=by rw[hs];simp
  have hoat:∀ k,k<len->gat s k=Y k:=fun k hk=>by rw[hs];unfold gat;simp[hk]
  refine⟨s,hlen.symm,⟨fun k hk=>?_,by omega,fun e=>by cases e⟩,fun k hk=>?_,Or.inr ⟨_,_,hx.1,by rw[hlen];simp⟩⟩
  ·rw[hlen] at hk;obtain⟨h1,h2,h3,_⟩:=hY k (by omega);obtain⟨b,o,rfl⟩:=Ho (v:=.int .i64 (Y 0).kind) (by have:=(hY 0 (by omega)).1;simpa using this);rw[add_plain] at h1 h2 h3;rw[hoat k hk];exact⟨b,o,rfl,Jf h1,h1,by rw[Nat.add_assoc];exact h2,by rw[Nat.add_assoc];exact h3⟩
  ·rw[hlen] at hk;obtain⟨_,_,_,q0,q1,q2⟩:=hY k (by omega);rw[hoat k hk];exact⟨yJ q0,yJ q1,yJ q2⟩
def aDu {H:Type} (d:DataW H) (ls:List (List GatZ)):Prop:=(d=.nil/\ls=[])∨∃ elems spare,d=.slice elems spare/\elems.length=ls.length/\∀ k,k<ls.length->∃ dk,elems[k]?=some dk/\Rh dk (lyt ls k)
theorem Uv{H:Type}{enc:TypeId × Value->H}{d:DataW H}{pl:List MemPlace}
  (hf:DataW.trod enc Tryz.prog W 0 (fun _=>true) true fuel 22 (Value.slice a len cap).cells.toList=some (d,pl)) :
  ∃ ls:List (List GatZ),len=ls.length/\LstGG W.heap.size W a cap ls/\(∀ k,k<ls.length->Vr (lyt ls k))/\aDu d ls:=by
 rcases open_slice Tryz.underlying22 hf with ⟨hcs,hx⟩ | ⟨x,l,c,m,n,D,Pl,hcs,_,hl,hm,hmm,hx,hall⟩
 ·simp[Value.cells] at hcs;obtain⟨rfl,rfl,rfl⟩:=hcs;simp only[Prod.mk.injEq] at hx;exact⟨[],rfl,⟨fun k hk=>by simp at hk,by simp,fun _=>rfl⟩,fun k hk=>by simp at hk,Or.inl ⟨hx.1,rfl⟩⟩
 ·simp[Value.cells] at hcs;obtain⟨rfl,rfl,rfl⟩:=hcs;simp only[if_true] at hmm;subst hmm;simp only[Prod.mk.injEq] at hx
  have each:∀ i,i<m->∃ y:List GatZ × Option Addr × Nat,W.cell? (x.add i)=some (.slice y.2.1 y.1.length y.2.2)/\LstG W.heap.size W y.2.1 y.2.2 y.1/\Vr y.1/\Rh (D i) y.1:=fun i hi=>by
   obtain⟨cs',h1,h2⟩:=hall i hi;rw[show Tryz.prog.cellsOf 62=1 from by kernel_rfl] at h1;obtain⟨_,hlen,hcell⟩:=World.cells?_some h1;obtain⟨v0,rfl⟩:=List.length_eq_one_iff.1 hlen
   obtain⟨a',l',c',rfl⟩:∃ a l c,v0=.slice a l c:=by
    rcases open_slice Tryz.underlying62 h2 with ⟨hcs,_⟩ | ⟨x,l,c,m,n,D,Pl,hcs,_⟩
    ·exact⟨_,_,_,List.head_eq_of_cons_eq hcs⟩
    ·exact⟨_,_,_,List.head_eq_of_cons_eq hcs⟩
   obtain⟨s,rfl,l1,f1,e1⟩:=Yh (a:=a') (len:=l') (cap:=c') h2;have e0:=hcell 0 (by omega);rw[add_add] at e0;exact⟨⟨s,a',c'⟩,by simpa using e0,l1,f1,e1⟩
  obtain⟨Y,hY⟩:=choose_lt each;obtain⟨s,hs⟩:∃ s:List (List GatZ),s=(List.range len).map fun r=>(Y r).1:=⟨_,rfl⟩
  have hlen:s.length=len:=by rw[hs];simp
  have hoat:∀ k,k<len->lyt s k=(Y k).1:=fun k hk=>by rw[hs];unfold lyt;simp[hk]
  refine⟨s,hlen.symm,⟨fun k hk=>?_,by omega,fun e=>by cases e⟩,fun k hk=>?_,Or.inr ⟨_,_,hx.1,by rw[hlen];simp,fun k hk=>?_⟩⟩
  ·rw[hlen] at hk;obtain⟨h1,h2,_⟩:=hY k (by omega);obtain⟨b,o,rfl⟩:=Ho (by have:=(hY 0 (by omega)).1;exact this);rw[add_plain] at h1;rw[hoat k hk];exact⟨b,o,_,_,rfl,Jf h1,h1,h2⟩
  ·rw[hlen] at hk;rw[hoat k hk];exact (hY k (by omega)).2.2.1
  ·rw[hlen] at hk;rw[hoat k hk];exact⟨D k,by simp[hk],(hY k (by omega)).2.2.2⟩
def aDv {H:Type} (d:DataW H) (ls:List (List GatZ)):Prop:=∃ d0 d1,d=.agg [d0,d1]/\aDu d1 ls
theorem Ri{H:Type}{enc:TypeId × Value->H}{r:Reach}{b0:Nat}{d:DataW H}{p:List MemPlace} (hv:Value.okWide Tryz.prog W r b0 24 v) (h:DataW.Trod enc Tryz.prog W 0 (fun _=>true) true 24 v d p) :
  ∃ (wide:Int) (aL:Option Addr) (cL:Nat) (s:List (List GatZ)),v=.agg #[.int .i64 wide,.slice aL s.length cL]/\(-9223372036854775808<=wide/\wide<=9223372036854775807)/\LstGG W.heap.size W aL cL s/\(∀ k,k<s.length->Vr (lyt s k))/\aDv d s:=by
 obtain⟨v0,v1,y0,y1,n,rfl,rfl,_,t0,t1⟩:=Go.Joins.open_agg2 Tryz.underlying24 (by kernel_rfl) (by kernel_rfl) hv h;obtain⟨N0,p0,_,q0⟩:=DataW.trod_int Tryz.underlying3 t0
 obtain⟨aL,len,cap,rfl⟩:∃ a l c,v1=.slice a l c:=by
  rcases open_slice Tryz.underlying22 t1 with ⟨hcs,_⟩ | ⟨x,l,c,m,n,D,Pl,hcs,_⟩
  ·exact⟨_,_,_,List.head_eq_of_cons_eq hcs⟩
  ·exact⟨_,_,_,List.head_eq_of_cons_eq hcs⟩
 obtain⟨s,rfl,l1,f1,e1⟩:=Uv (a:=aL) (len:=len) (cap:=cap) (d:=y1.1) (pl:=y1.2) t1;obtain rfl:v0=.int .i64 N0:=List.head_eq_of_cons_eq p0;exact⟨N0,aL,cap,s,rfl,yJ q0,l1,f1,_,_,rfl,e1⟩
theorem Rj{H:Type}{d:DataW H}{s:List GatZ} (hw:∀ n∈d.weights Tryz.prog 62,n<=reachBytes) (h:Rh d s):s.length<=281474976710656:=by
 rcases h with ⟨_,rfl⟩ | ⟨elems,spare,rfl,he⟩
 ·simp
 ·have hs:=hw ((elems.length+spare.length)*Tryz.prog.bytesOf 61) (by simp[DataW.weights,Tryz.underlying62]);rw[show Tryz.prog.bytesOf 61=24 from by kernel_rfl] at hs;simp[reachBytes] at hs;omega
theorem Yi{H:Type}{d:DataW H}{s:List (List GatZ)} (hw:∀ n∈d.weights Tryz.prog 24,n<=reachBytes) (h:aDv d s) (hb:∀ k,k<s.length->Vr (lyt s k)):CirB s:=by
 obtain⟨d0,d1,rfl,e1⟩:=h;simp only[DataW.weights,Tryz.underlying24] at hw;have hw1:∀ n∈d1.weights Tryz.prog 22,n<=reachBytes:=fun n hn=>hw n (DataW.weights_mem_each (j:=1) rfl rfl n hn);rcases e1 with ⟨_,rfl⟩ | ⟨elems,spare,rfl,he,hk⟩
 ·exact⟨by simp,fun k hk=>by simp at hk,fun k hk=>by simp at hk⟩
 ·refine⟨?_,fun k h2=>?_,hb⟩
  ·have hs:=hw1 ((elems.length+spare.length)*Tryz.prog.bytesOf 62) (by simp[DataW.weights,Tryz.underlying22]);rw[show Tryz.prog.bytesOf 62=24 from by kernel_rfl] at hs;simp[reachBytes] at hs;omega
  ·obtain⟨dk,h3,h4⟩:=hk k h2;refine Rj (d:=dk) (fun n hn=>hw1 n ?_) h4;have:=Ee (P:=Tryz.prog) (e:=62) h3 n hn;simp[DataW.weights,Tryz.underlying22,this]
end Go.Proofs.YtkdndfbfmchcpaaGreatDoor
