
import Derived.Shelf.Slices.SearchI
import Derived.Maps.OwnOps
import Derived.Maps.OwnSet
import Derived.DeepKeys4
import Derived.Laws.AppendOwn
import Derived.WalkArith
import Derived.Deep.RegionHeld3
import Derived.Test.YtkdndfbfmchcpaaGreatDoorTres
set_option maxRecDepth 1000000
set_option maxHeartbeats 8000000
namespace Go.Proofs
open Go.Shelf
def Tryz.laysNm225_ren:Go.Shelf.Ren:=⟨fun | 25=>159 | 31=>172 | 32=>180 | 37=>187 | n=>n,fun | 22=>25 | 3=>3 | 4=>4 | 40=>123 | 0=>0 | n=>n,fun | n=>n⟩
theorem Tryz.laysNm225:Go.Proofs.Lays2.n25 Tryz.prog Tryz.laysNm225_ren:={
 mixed:=by kernel_rfl
 f25:=Tryz.func159.trans (congrArg some (by kernel_rfl))
 f31:=Tryz.func172.trans (congrArg some (by kernel_rfl))
 f32:=Tryz.func180.trans (congrArg some (by kernel_rfl))
 f37:=Tryz.func187.trans (congrArg some (by kernel_rfl))
 t0:=Tryz.underlying0
 a0:=Tryz.isAgg0
 z0:=Tryz.sizeOf0
 v0:=Tryz.zeroValue0
 t3:=Tryz.underlying3
 a3:=Tryz.isAgg3
 z3:=Tryz.sizeOf3
 v3:=Tryz.zeroValue3
 t4:=Tryz.underlying4
 a4:=Tryz.isAgg4
 z4:=Tryz.sizeOf4
 v4:=Tryz.zeroValue4
 t22:=Tryz.underlying25
 a22:=Tryz.isAgg25
 z22:=Tryz.sizeOf25
 v22:=Tryz.zeroValue25
 t40:=Tryz.underlying123
 a40:=Tryz.isAgg123
 z40:=Tryz.sizeOf123
 v40:=Tryz.zeroValue123 }
theorem Tryz.search_any (b off n c:Nat) (zs:List Int) (x:Int) (w:World) (hz:n<=zs.length) (hbig:n<4611686018427387904) (hc:∀ j,j<zs.length->w.cell? ⟨b,off+j,none⟩=some (.int .i64 (zs.getD j 0))) (hs:(zs.take n).Pairwise (·<=·)) :
  Calls Tryz.prog 159 #[.slice (some ⟨b,off,none⟩) n c,.int .i64 x] w fun e w'=>e=.returned (.tuple #[.int .i64 ((zs.take n).countP (·<x):Nat),.bool ((zs.take n).contains x)])/\∃ q,w'=w.drewN q :=
 Any.slices_BinarySearch_int Tryz.laysNm225 b off n c zs x w hz hbig hc hs
end Go.Proofs
namespace Go.Proofs.YtkdndfbfmchcpaaGreatDoor
variable {B N a b c g i k n q s:Nat}{d ps:List Int}{nodes rows:List (List Int)}{w w':World}{x:Int}
open Go.RowKit
def gk (a b:Nat):Value:=.agg #[.int .i64 (a:Int),.int .i64 (b:Int)]
theorem aD1{d:Nat} (h:gk a b=gk c d):a=c/\b=d:=by
 unfold gk at h;simp only[Value.agg.injEq,Array.mk.injEq,List.cons.injEq,Value.int.injEq] at h;omega
theorem Fm:laidOutB Tryz.prog=true:=by kernel_rfl
theorem Kh:WideMaps.KeyLaw Tryz.prog 163:=deep_law_laid Fm (m:=3) (by omega) (of_decide_eq_true (by kernel_rfl)) (by kernel_rfl) (by rw[Tryz.underlying163])
theorem aD2 (h1:-9223372036854775808<=x) (h2:x<=9223372036854775807):(Lit.int .i64 x).wf=true:=WalkArith.wf_i64 (by omega)
theorem Jh (d:Nat) {x:Int} (h1:-9223372036854775808<=x) (h2:x<=9223372036854775807):Tryz.prog.keyLits (d+1) 3 [.int .i64 x]=some [.int .i64 x]:=by
 simp[Program.keyLits,Tryz.underlying3,aD2 h1 h2]
theorem Ht (ha:a<=1000000000) (hb:b<=1000000000):∃ l,keyOf Tryz.prog 163 (gk a b)=some l:=by
 obtain⟨n,hn⟩:∃ n,Tryz.prog.types.size=n+1:=⟨Tryz.prog.types.size-1,by have:0<Tryz.prog.types.size:=of_decide_eq_true (by kernel_rfl);omega⟩
 have e1:=Jh n (x:=(a:Int)) (by omega) (by omega);have e2:=Jh n (x:=(b:Int)) (by omega) (by omega);have k1:Tryz.prog.keyType 163=true:=by kernel_rfl
 have k2:Tryz.prog.cellsOf 163=2:=by kernel_rfl
 have k3:Tryz.prog.cellsOf 3=1:=by kernel_rfl
 refine⟨.string (keyBytes [.int .i64 (a:Int),.int .i64 (b:Int)]),?_⟩;simp only[keyOf,Tryz.underlying163,k1,hn];rw[show (gk a b).formed Tryz.prog 163=true by simp[gk,Value.formed,Tryz.underlying163,k2]]
 have e3:Tryz.prog.keyLits (n+1+1) 163 [.int .i64 (a:Int),.int .i64 (b:Int)]=some [.int .i64 (a:Int),.int .i64 (b:Int)]:=by unfold Program.keyLits;simp only[Tryz.underlying163];simp[k2,k3,e1,e2]
 rw[show (gk a b).cells.toList=[.int .i64 (a:Int),.int .i64 (b:Int)] from rfl,e3];rfl
def MapIs (w:World) (B:Nat) (M:Nat->Nat->Option (List Int)):Prop :=
 ∃ es clock,w.heap[B]?=some (.map es clock)/\(∀ e∈es.toList,∃ a b d,e.key=gk a b/\a<=1000000000/\b<=1000000000/\M a b=some d/\e.val=.agg (an 4 (zat d)))/\(∀ a b d,M a b=some d->∃ e∈es.toList,e.key=gk a b)/\es.toList.Pairwise (fun x y=>x.key≠y.key)
def upd (M:Nat->Nat->Option (List Int)) (a b:Nat) (d:List Int):Nat->Nat->Option (List Int):=fun x y=>if x=a/\y=b then some d else M x y
theorem Am (M:Nat->Nat->Option (List Int)) (a b:Nat) (d:List Int):upd M a b d a b=some d:=by simp[upd]
theorem yQ{M:Nat->Nat->Option (List Int)}{x y:Nat} (h:¬ (x=a/\y=b)):upd M a b d x y=M x y:=by simp[upd,h]
theorem MapIs.lt{M:Nat->Nat->Option (List Int)} (h:MapIs w B M):B<w.heap.size:=by
 obtain⟨es,clock,hb,_⟩:=h;exact (Array.getElem?_eq_some_iff.1 hb).1
theorem MapIs.block{M:Nat->Nat->Option (List Int)} (h:MapIs w B M) (e:w'.heap[B]?=w.heap[B]?):MapIs w' B M:=by
 obtain⟨es,clock,hb,r⟩:=h;exact⟨es,clock,e.trans hb,r⟩
theorem MapIs.below{n0:Nat}{M:Nat->Nat->Option (List Int)} (h:MapIs w B M) (e:Below n0 w w') (hb:B<n0):MapIs w' B M:=h.block (e.block B hb)
theorem MapIs.new (w:World):MapIs (w.alloc (.map #[] 0)) w.heap.size (fun _ _=>none):=⟨#[],0,(MapKept.heap_alloc w _).1,by simp,by simp,by simp⟩
theorem MapIs.find{M:Nat->Nat->Option (List Int)} (ha:a<=1000000000) (hb:b<=1000000000) {es:Array MapEntry}
  (h1:∀ e∈es.toList,∃ a b d,e.key=gk a b/\a<=1000000000/\b<=1000000000/\M a b=some d/\e.val=.agg (an 4 (zat d))) (h2:∀ a b d,M a b=some d->∃ e∈es.toList,e.key=gk a b) :
  (M a b=none/\(Instr.findKey 163 (gk a b) es.toList).run Tryz.prog w=.ok none w/\∀ e∈es.toList,e.key≠gk a b)∨∃ d j e,M a b=some d/\(Instr.findKey 163 (gk a b) es.toList).run Tryz.prog w=.ok (some (j,.agg (an 4 (zat d)))) w/\es.toList[j]?=some e/\e.key=gk a b:=by
 obtain⟨l,hl⟩:=Ht ha hb;rcases Kh.find w hl es.toList (fun e he=>by obtain⟨x,y,d,hk,hx,hy,_⟩:=h1 e he;rw[hk];exact Ht hx hy) with ⟨r1,r2⟩ | ⟨j,e,r1,r2,r3⟩
 ·left;refine⟨?_,r1,r2⟩;cases hM:M a b with
  | none=>rfl
  | some d =>
   obtain⟨e,he,hk⟩:=h2 a b d hM;exact absurd hk (r2 e he)
 ·right;obtain⟨x,y,d,hk,hx,hy,hM,hv⟩:=h1 e (List.mem_of_getElem? r2);obtain⟨rfl,rfl⟩:=aD1 (hk.symm.trans r3);exact⟨d,j,e,hM,by rw[r1,hv],r2,r3⟩
def Yk (M:Nat->Nat->Option (List Int)) (a b:Nat):Nat->Int:=match M a b with | some d=>zat d | none=>fun _=>0
theorem MapIs.lookup{M:Nat->Nat->Option (List Int)} (h:MapIs w B M) {a b:Nat} (ha:a<=1000000000) (hb:b<=1000000000) (c:Bool) :
  (Instr.lookup 196 (.map (some B)) (gk a b) c).run Tryz.prog w=.ok (if c then .tuple #[.agg (an 4 (Yk M a b)),.bool (M a b).isSome] else .agg (an 4 (Yk M a b))) w:=by
 obtain⟨es,clock,hB,h1,h2,_⟩:=h;obtain⟨l,hl⟩:=Ht ha hb;have hck:=Kh.check w es.isEmpty hl;unfold Yk;rcases MapIs.find (w:=w) ha hb h1 h2 with ⟨hM,hf,_⟩ | ⟨d,j,e,hM,hf,_,_⟩
 ·simp[Instr.lookup,run_underlying Tryz.underlying196,Result.andThen,MapKept.run_getObj_map hB,hck,hf,hM];rfl
 ·simp[Instr.lookup,run_underlying Tryz.underlying196,Result.andThen,MapKept.run_getObj_map hB,hck,hf,hM]
theorem MapIs.update{M:Nat->Nat->Option (List Int)} (h:MapIs w B M) {a b:Nat} (ha:a<=1000000000) (hb:b<=1000000000) (d:List Int) :
  ∃ w',(Instr.mapUpdate 196 (.map (some B)) (gk a b) (.agg (an 4 (zat d)))).run Tryz.prog w=.ok () w'/\MapIs w' B (upd M a b d)/\w.grownBy w' (some B):=by
 obtain⟨es,clock,hB,h1,h2,h3⟩:=h;obtain⟨l,hl⟩:=Ht ha hb;have hck:=Kh.check w false hl;have hst:=Kh.stays w hl;have hlt:B<w.heap.size:=(Array.getElem?_eq_some_iff.1 hB).1;have hgr:∀ o:Obj,w.grownBy { w with heap:=w.heap.setIfInBounds B o } (some B):=fun o=>⟨rfl,rfl,rfl,by simp,fun k _ hk=>(MapKept.heap_set hB).2 k (fun e=>hk (by rw[e]))⟩
 rcases MapIs.find (w:=w) ha hb h1 h2 with ⟨hM,hf,hne⟩ | ⟨d0,j,e,hM,hf,hj,hk⟩
 ·refine⟨_,by simp[Instr.mapUpdate,run_underlying Tryz.underlying196,Result.andThen,MapKept.run_getObj_map hB,hck,hf,MapKept.run_setObj_map _ hB];rfl,⟨_,_,(MapKept.heap_set hB).1,?_,?_,?_⟩,hgr _⟩
  ·intro e he;simp only[Array.toList_push,List.mem_append,List.mem_singleton] at he;rcases he with he | rfl
   ·obtain⟨x,y,d',hk,hx,hy,hM',hv⟩:=h1 e he;refine⟨x,y,d',hk,hx,hy,?_,hv⟩;rw[yQ (fun hc=>by rw[hc.1,hc.2,hM] at hM';cases hM')];exact hM'
   ·exact⟨a,b,d,rfl,ha,hb,Am _ _ _ _,rfl⟩
  ·intro x y d' hM';simp only[Array.toList_push,List.mem_append,List.mem_singleton];by_cases hc:x=a/\y=b
   ·exact⟨_,.inr rfl,by rw[hc.1,hc.2]⟩
   ·rw[yQ hc] at hM';obtain⟨e,he,hk⟩:=h2 x y d' hM';exact⟨e,.inl he,hk⟩
  ·simp only[Array.toList_push];rw[List.pairwise_append];exact⟨h3,by simp,fun x hx y hy=>by rw[List.mem_singleton.1 hy];exact hne x hx⟩
 ·have hes:es[j]?=some e:=by simpa using hj
  have hjl:j<es.size:=(Array.getElem?_eq_some_iff.1 hes).1
  have hm:(es.modify j fun e=>{ e with key:=gk a b,val:=.agg (an 4 (zat d)) }).toList=es.toList.set j { e with key:=gk a b,val:=.agg (an 4 (zat d)) }:=by
   apply List.ext_getElem?;intro i;rw[<- Array.getElem?_toList.symm];rw[List.getElem?_set];simp only[Array.getElem?_modify];by_cases hi:j=i
   ·subst hi;rw[if_pos rfl,if_pos rfl,hes];simp[hjl]
   ·rw[if_neg hi,if_neg hi];simp
  refine⟨_,by simp[Instr.mapUpdate,run_underlying Tryz.underlying196,Result.andThen,MapKept.run_getObj_map hB,hck,hf,hes,hk,hst,MapKept.run_setObj_map _ hB];rfl,⟨_,_,(MapKept.heap_set hB).1,?_,?_,?_⟩,hgr _⟩
  ·intro e' he';rw[hm] at he';obtain⟨i,hi⟩:=List.getElem?_of_mem he';rw[List.getElem?_set] at hi;by_cases hij:j=i
   ·rw[if_pos hij] at hi;split at hi
    ·cases hi;exact⟨a,b,d,rfl,ha,hb,Am _ _ _ _,rfl⟩
    ·cases hi
   ·rw[if_neg hij] at hi;obtain⟨x,y,d',hk',hx,hy,hM',hv⟩:=h1 e' (List.mem_of_getElem? hi);refine⟨x,y,d',hk',hx,hy,?_,hv⟩;rw[yQ]
    ·exact hM'
    ·rintro⟨rfl,rfl⟩;have:=List.pairwise_iff_getElem.1 h3;obtain⟨hjl',hje⟩:=List.getElem?_eq_some_iff.1 hj;obtain⟨hil',hie⟩:=List.getElem?_eq_some_iff.1 hi;rcases Nat.lt_or_gt_of_ne hij with hlt' | hlt'
     ·exact this j i hjl' hil' hlt' (by rw[hje,hie,hk,hk'])
     ·exact this i j hil' hjl' hlt' (by rw[hje,hie,hk,hk'])
  ·intro x y d' hM';rw[hm];have hjl':j<es.toList.length:=(List.getElem?_eq_some_iff.1 hj).1;by_cases hc:x=a/\y=b
   ·exact⟨_,List.mem_iff_getElem?.2 ⟨j,by rw[List.getElem?_set,if_pos rfl,if_pos hjl']⟩,by rw[hc.1,hc.2]⟩
   ·rw[yQ hc] at hM';obtain⟨e',he',hk'⟩:=h2 x y d' hM';obtain⟨i,hi⟩:=List.getElem?_of_mem he';refine⟨e',List.mem_iff_getElem?.2 ⟨i,?_⟩,hk'⟩;rw[List.getElem?_set,if_neg]
    ·exact hi
    ·rintro rfl;rw[hi] at hj;cases hj;exact hc (aD1 (hk'.symm.trans hk))
  ·rw[hm];rw[List.pairwise_iff_getElem];intro i i' hi hi' hlt';have:=List.pairwise_iff_getElem.1 h3;obtain⟨hjl',hje⟩:=List.getElem?_eq_some_iff.1 hj;rw[List.length_set] at hi hi';have t:=this i i' hi hi' hlt';rw[List.getElem_set,List.getElem_set];by_cases e1:j=i
   ·subst e1;rw[if_pos rfl,if_neg (by omega)];rw[hje,hk] at t;exact t
   ·rw[if_neg e1];by_cases e2:j=i'
    ·subst e2;rw[if_pos rfl];rw[hje,hk] at t;exact t
    ·rw[if_neg e2];exact t
def duo (a b:Value):Nat->Value
 | 0=>a
 | _=>b
theorem Ai (w:World) (t:TypeId) (a b:Value):(w.alloc (.cells #[a,b] t)).rowIs w.heap.size t 2 (duo a b) :=
 ⟨#[a,b],heap_alloc_new w _,rfl,fun i hi=>by
  have:i=0∨i=1:=by omega
  rcases this with rfl | rfl <;> rfl⟩
theorem aAq{W:World}{t:TypeId}{a b:Value} (h:W.rowIs g t 2 (duo a b)):W.heap[g]?=some (.cells #[a,b] t (0,0)):=by
 obtain⟨cs,h1,h2,h4⟩:=h;rw[h1]
 have e:cs=#[a,b]:=by
  apply Array.ext
  ·simpa using h2
  ·intro i hi hi2;have h0:i=0∨i=1:=by simp at hi2;omega
   have h5:=h4 i (by omega);rw[Array.getElem?_eq_getElem hi] at h5;have h6:=Option.some.inj h5;rw[h6];rcases h0 with rfl | rfl <;> rfl
 rw[e]
theorem Yl{P:Program}{fn:Func}{p r:Tmp}{ty:TypeId} (h:fn.results=#[.cell p ty,.cell r ty]) (tmps:Array Value) (w:World) (g g2:Nat) (tt:TypeId) (cs cs2:Array Value) (fr:Nat × Nat) (d:TypeDesc)
  (hp:tmps.getD p undef=.pointer (some ⟨g,0,none⟩)) (hr:tmps.getD r undef=.pointer (some ⟨g2,0,none⟩)) (hg:w.heap[g]?=some (.cells cs tt fr)) (hg2:w.heap[g2]?=some (.cells cs2 tt fr))
  (hu:P.underlying ty=some d) (hd:(match d with | .struct _ | .array _ _=>true | _=>false)=true) (hi:(P.info? ty).map (·.size)=some cs.size) (hi2:(P.info? ty).map (·.size)=some cs2.size) :
  (results fn tmps).run P w=.ok (.tuple #[.agg cs,.agg cs2]) w:=by
 have hp':tmps[p]?.getD undef=.pointer (some ⟨g,0,none⟩):=by simpa using hp
 have hr':tmps[r]?.getD undef=.pointer (some ⟨g2,0,none⟩):=by simpa using hr
 simp[results,h,hp',hr',asAddr,run_loadVar_row w g tt ty cs fr d hg hu hd hi,run_loadVar_row w g2 tt ty cs2 fr d hg2 hu hd hi2]
theorem Fh (x:Int) (w:World):Calls Tryz.prog 119 #[.int .i64 x] w fun e w'=>e=.returned (.bool (decide (1<=x) && decide (x<=65536)))/\w'=w:=by
 by_cases h1:1<=x
 ·go_enter Tryz.func119,Tryz.ntmps119;go_wp2;go_ret;exact⟨by simp[h1],rfl⟩
 ·go_enter Tryz.func119,Tryz.ntmps119;go_wp2;go_ret;refine⟨?_,rfl⟩;rw[decide_eq_false (by omega:¬ 1<=x)];rfl
theorem Dl (a:Option Addr) (len cap:Nat) (w:World):Calls Tryz.prog 163 #[.slice a len cap] w fun e w'=>e=.returned (.bool (decide (len=4)))/\w'=w:=by
 go_enter Tryz.func163,Tryz.ntmps163;go_wp2;go_ret;refine⟨?_,rfl⟩;show Ending.returned (.bool ((len:Int)==4))=_;rw[show ((len:Int)==4)=decide (len=4) by rw[Bool.eq_iff_iff];simp;omega]
theorem aBl (a b:Nat) (x:Int) (w:World):Calls Tryz.prog 121 #[gk a b,.int .i64 x] w fun e w'=>e=.returned (.bool (decide (x<a) || decide ((b:Int)<=x)))/\Below w.heap.size w w':=by
 unfold gk;by_cases h:x<(a:Int)
 ·go_enter Tryz.func121,Tryz.ntmps121;go_wp2;go_ret;exact⟨by rw[decide_eq_true h];rfl,(Below.refl _ _).alloc (Nat.le_refl _) _⟩
 ·go_enter Tryz.func121,Tryz.ntmps121;go_wp2;go_ret;exact⟨by rw[decide_eq_false (by omega:¬ x<(a:Int))];rfl,(Below.refl _ _).alloc (Nat.le_refl _) _⟩
theorem Pd (a b c:Nat) (hab:b=a+c) (hb:b<=1000000) (w:World):Calls Tryz.prog 158 #[gk a b] w fun e w'=>e=.returned (.tuple #[gk a (a+lft c),gk (a+lft c) b])/\Below w.heap.size w w':=by
 unfold gk;have hsub:(b:Int)-(a:Int)=(c:Int):=by omega
 have hcb:c<=1000000:=by omega
 have hlc:lft c<=1000000:=by have:=(zJ c).2;unfold lft at *;have:=Id c 1 c (Nat.le_refl _) (by omega);omega
 have hal:a<=1000000:=by omega
 clear hab;go_enter Tryz.func158,Tryz.ntmps158;go_wp2_with fail;go_loop [4] (fun mv=>∃ (k m:Nat),mv=.int .i64 m/\1<=m/\m<=c+1/\c<=m+k/\Hid (Jl k m c=lft c)) (fun mv=>c+1-(intOf mv).toNat)
 case atStart=>exact⟨c,1,rfl,Nat.le_refl _,by omega,by omega,rfl⟩
 case round =>
  obtain⟨k,m,rfl,h1,h2,h6,HI⟩:=hrel;by_cases h:m*2<c
  ·have e1:2*(m:Int)<(c:Int):=by omega
   have hk:0<k:=by omega
   obtain⟨k',rfl⟩:∃ k',k=k'+1:=⟨k-1,by omega⟩
   have HI2:Hid (Jl k' (m*2) c=lft c):=by have:=HI.out;rw[Jl,if_pos h] at this;exact this
   go_wp2_with fail
   go_round
   case rel=>exact⟨k',m*2,by go_num,by omega,by omega,by omega,HI2⟩
   case measure=>simp[intOf];omega
  ·have e1:¬ 2*(m:Int)<(c:Int):=by omega
   have HE:Hid (lft c=m):=by
    unfold Hid;rw[<- HI.out];cases k with
    | zero=>rfl
    | succ k=>rw[Jl,if_neg h]
   rw[HE.out] at hlc;have hwr:IntKind.i64.wrap ((a:Int)+(m:Int))=(a:Int)+(m:Int):=by rw[IntKind.wrap_i64];omega
   go_wp2_with fail;go_region_held3 (fun w'=>w'.cell? ⟨w.heap.size,0,none⟩=some (.int .i64 (a:Int))/\w'.cell? ⟨w.heap.size,1,none⟩=some (.int .i64 (b:Int))) (go_keep) (fail)
   have HG1:Hid (∀ o1 o3:Obj,(((w.alloc o1).alloc (.cells #[.int .i64 (a:Int),.int .i64 ((a:Int)+(m:Int))] 163)).alloc o3).drew.heap[w.heap.size+1]?=some (.cells #[.int .i64 (a:Int),.int .i64 ((a:Int)+(m:Int))] 163 (0,0))):=fun o1 o3=>by
    have:=aAq ((Ai (w.alloc o1) 163 (.int .i64 (a:Int)) (.int .i64 ((a:Int)+(m:Int)))).alloc o3)
    rwa [show (w.alloc o1).heap.size=w.heap.size+1 from by simp] at this
   have HG2:Hid (∀ o1 o2:Obj,(((w.alloc o1).alloc o2).alloc (.cells #[.int .i64 ((a:Int)+(m:Int)),.int .i64 (b:Int)] 163)).drew.heap[w.heap.size+1+1]?=some (.cells #[.int .i64 ((a:Int)+(m:Int)),.int .i64 (b:Int)] 163 (0,0))):=fun o1 o2=>by
    have:=aAq (Ai ((w.alloc o1).alloc o2) 163 (.int .i64 ((a:Int)+(m:Int))) (.int .i64 (b:Int)))
    rwa [show ((w.alloc o1).alloc o2).heap.size=w.heap.size+1+1 from by simp] at this
   have HB:Hid (∀ o1 o2 o3:Obj,Below w.heap.size w (((w.alloc o1).alloc o2).alloc o3).drew):=fun o1 o2 o3=>((((Below.refl _ _).alloc (Nat.le_refl _) _).alloc (by simp) _).alloc (by simp;omega) _).drew;have HM:Hid (((a+lft c:Nat):Int)=(a:Int)+(m:Int)):=by unfold Hid;rw[HE.out];omega
   go_wp2_with fail;refine bodyPost_ret (Yl rfl _ _ (w.heap.size+1) (w.heap.size+1+1) 163 _ _ (0,0) _ rfl rfl (HG1.out _ _) (HG2.out _ _) Tryz.underlying163 rfl (by kernel_rfl) (by kernel_rfl)) rfl ?_;rw[HM.out];exact⟨rfl,HB.out _ _ _⟩
def WlkAt (w:World) (g B s:Nat):Prop:=w.heap[g]?=some (.cells #[.pointer (some ⟨s,0,none⟩),.map (some B)] 198 (0,0))
theorem WlkAt.block (h:WlkAt w g B s) (e:w'.heap[g]?=w.heap[g]?):WlkAt w' g B s:=e.trans h
theorem WlkAt.lt (h:WlkAt w g B s):g<w.heap.size:=(Array.getElem?_eq_some_iff.1 h).1
theorem WlkAt.c0 (h:WlkAt w g B s):w.cell? ⟨g,0,none⟩=some (.pointer (some ⟨s,0,none⟩)):=by
 unfold WlkAt at h;simp[World.cell?,h]
theorem WlkAt.c1 (h:WlkAt w g B s):w.cell? ⟨g,1,none⟩=some (.map (some B)):=by
 unfold WlkAt at h;simp[World.cell?,h]
theorem Ji (s:Nat) (w:World):Calls Tryz.prog 125 #[.pointer (some ⟨s,0,none⟩)] w fun e w'=>e=.returned (.pointer (some ⟨w.heap.size+1,0,none⟩))/\WlkAt w' (w.heap.size+1) w.heap.size s/\MapIs w' w.heap.size (fun _ _=>none)/\w'.heap.size=w.heap.size+2/\Below w.heap.size w w':=by
 have hmm:=@run_makeMap Tryz.prog;go_enter Tryz.func125,Tryz.ntmps125;go_wp2;go_ret;refine⟨rfl,?_,?_,by simp,((Below.refl _ _).alloc (Nat.le_refl _) _).alloc (by simp) _⟩
 ·have:=heap_alloc_new (w.alloc (.map #[] 0)) (.cells #[.pointer (some ⟨s,0,none⟩),.map (some w.heap.size)] 198)
  rwa [show (w.alloc (.map #[] 0)).heap.size=w.heap.size+1 from by simp] at this
 ·refine (MapIs.new w).block ?_;exact (MapKept.heap_alloc _ _).2 _ (by simp)
theorem Dm (q b cap:Nat) (a:Option Addr) (l:List Int) (w:World) (h3:3<=q) (hm:q<=2147483647) (hp:w.cell? ⟨b,0,none⟩=some (.int .i64 q)) (hl:l.length=4) (hfit:Fits l) (hrow:RowB w.heap.size w a l) :
  Calls Tryz.prog 165 #[.pointer (some ⟨b,0,none⟩),.slice a 4 cap] w fun e w'=>e=.returned (.agg (an 4 (fun j=>zat l j % (q:Int))))/\Below w.heap.size w w':=by
 have hbl:b<w.heap.size:=qK hp;have HP:=hid hp;have HF:=hid hfit;have HR:=hid hrow;have HLN:=hid hl;clear hp hfit hrow hl;go_enter Tryz.func165,Tryz.ntmps165;go_wp2_with fail
 go_loopw [9] (fun iv wr=>∃ k:Nat,k<=4/\iv=.int .i64 k/\Hid (ArrI wr w.heap.size 175 4 (fll (fun j=>zat l j % (q:Int)) (fun _=>0) k)/\Below w.heap.size w wr))
  (fun iv _=>4-(intOf iv).toNat)
 case atStart =>
  refine⟨0,by omega,rfl,?_,(Below.refl _ _).alloc (Nat.le_refl _) _⟩;rw[jJ];exact ArrI.new w 4 175 (fun _=>0)
 case round =>
  obtain⟨k,hk,rfl,hC⟩:=hrel;obtain⟨hA,hbel⟩:=hC.out;by_cases hlt:k<4
  ·have hlt2:(k:Int)<4:=by omega
   have HE:Hid (ArrI (wr.setCell ⟨w.heap.size,k,none⟩ (.int .i64 (zat l k % (q:Int)))) w.heap.size 175 4 (fll (fun j=>zat l j % (q:Int)) (fun _=>0) (k+1))/\Below w.heap.size w (wr.setCell ⟨w.heap.size,k,none⟩ (.int .i64 (zat l k % (q:Int))))) :=
    ⟨hA.next,hbel.setCell (p:=⟨w.heap.size,k,none⟩) (by simp) _⟩
   have c1:=hA.cell hlt;have y1:=hA.frozen k;have hks:IntKind.i64.wrap ((k:Int)+1)=(k:Int)+1:=by rw[IntKind.wrap_i64];omega
   obtain⟨bl,ol,rfl,hbl',hcl⟩:=HR.out k (by rw[HLN.out];exact hlt);have hcl2:=(hbel.cell (p:=⟨bl,ol+k,none⟩) hbl').trans hcl;obtain⟨hx1,hx2⟩:=HF.out k (by rw[HLN.out];exact hlt);have HMx:=hid (zZ q b (zat l k) wr h3 hm ((hbel.cell (p:=⟨b,0,none⟩) hbl).trans HP.out) hx1 hx2);clear hA hbel hcl hbl' hC;generalize zat l k % (q:Int)=x at *;generalize zat l k=y at *;go_wp2_with fail;refine HMx.out.mono ?_;rintro e w1 ⟨rfl,rfl⟩;go_wp2_with fail;go_roundw
   case rel=>exact⟨k+1,by omega,by go_num,HE⟩
   case measure=>simp[intOf];omega
  ·obtain rfl:k=4:=by omega
   have HE:Hid (ArrI wr w.heap.size 175 4 (fun j=>zat l j % (q:Int))/\Below w.heap.size w wr):=⟨hA.congr (fun j hj=>zV hj),hbel⟩
   clear hA hbel hC;have HA8:=hid HE.out.1
   go_wp2_with (first
    | (refine jU rfl 175 _ rfl _ rfl _ _ _ _ _ HA8.out Tryz.underlying175 (by kernel_rfl) ?_)
    | (refine jX rfl 175 _ _ rfl _ _ _ _ rfl rfl _ HA8.out (by kernel_rfl) ?_))
   refine bodyPost_ret (xQ rfl _ _ w.heap.size 175 4 _ _ (fun j=>zat l j % (q:Int)) rfl (HA8.out.setRow _) Tryz.underlying175 (by kernel_rfl)) rfl ?_;exact⟨rfl,below_setRow HE.out.2 (by omega) _⟩
theorem Rm (q b cap:Nat) (a:Option Addr) (l:List Int) (w:World) (h3:3<=q) (hm:q<=2147483647) (hp:w.cell? ⟨b,0,none⟩=some (.int .i64 q)) (hlen:l.length<=17592186044400) (hfit:Fits l) (hrow:RowB w.heap.size w a l) :
  Calls Tryz.prog 124 #[.pointer (some ⟨b,0,none⟩),.slice a l.length cap] w fun e w'=>e=.returned (.slice (some ⟨w.heap.size,0,none⟩) l.length l.length)/\ArrI w' w.heap.size 3 l.length (fun j=>zat l j % (q:Int))/\Below w.heap.size w w':=by
 have hbl:b<w.heap.size:=qK hp;have HP:=hid hp;have HF:=hid hfit;have HR:=hid hrow;clear hp hfit hrow;obtain⟨len,hL⟩:=exE (l.length);rw[<- hL] at hlen ⊢;have HLL:=hid hL;clear hL;have hmk2:=fun w=>run_make_row' (P:=Tryz.prog) 25 3 (.int .i64 0) 8 Tryz.underlying25 Tryz.infoInt rfl .i64 .i64 len (by omega) (by omega) w;go_enter Tryz.func124,Tryz.ntmps124;go_wp2_with fail
 go_loopw [13] (fun iv wr=>∃ k:Nat,k<=len/\iv=.int .i64 k/\Hid (ArrI wr w.heap.size 3 len (fll (fun j=>zat l j % (q:Int)) (fun _=>0) k)/\Below w.heap.size w wr))
  (fun iv _=>len-(intOf iv).toNat)
 case atStart =>
  refine⟨0,by omega,rfl,?_,(Below.refl _ _).alloc (Nat.le_refl _) _⟩;rw[jJ];exact World.rowIs_made _ _ _ _
 case round =>
  obtain⟨k,hk,rfl,hC⟩:=hrel;obtain⟨hA,hbel⟩:=hC.out;by_cases hlt:k<len
  ·have hlt2:(k:Int)<(len:Int):=by omega
   have HE:Hid (ArrI (wr.setCell ⟨w.heap.size,k,none⟩ (.int .i64 (zat l k % (q:Int)))) w.heap.size 3 len (fll (fun j=>zat l j % (q:Int)) (fun _=>0) (k+1))/\Below w.heap.size w (wr.setCell ⟨w.heap.size,k,none⟩ (.int .i64 (zat l k % (q:Int))))) :=
    ⟨hA.next,hbel.setCell (p:=⟨w.heap.size,k,none⟩) (by simp) _⟩
   have c1:=hA.cell hlt;have y1:=hA.frozen k;have hks:IntKind.i64.wrap ((k:Int)+1)=(k:Int)+1:=by rw[IntKind.wrap_i64];omega
   obtain⟨bl,ol,rfl,hbl',hcl⟩:=HR.out k (by rw[<- HLL.out];exact hlt);have hcl2:=(hbel.cell (p:=⟨bl,ol+k,none⟩) hbl').trans hcl;obtain⟨hx1,hx2⟩:=HF.out k (by rw[<- HLL.out];exact hlt);have HMx:=hid (zZ q b (zat l k) wr h3 hm ((hbel.cell (p:=⟨b,0,none⟩) hbl).trans HP.out) hx1 hx2);clear hA hbel hcl hbl' hC;generalize zat l k % (q:Int)=x at *;generalize zat l k=y at *;go_wp2_with fail;refine HMx.out.mono ?_;rintro e w1 ⟨rfl,rfl⟩;go_wp2_with fail;go_roundw
   case rel=>exact⟨k+1,by omega,by go_num,HE⟩
   case measure=>simp[intOf];omega
  ·obtain rfl:k=len:=by omega
   have HE:Hid (ArrI wr w.heap.size 3 k (fun j=>zat l j % (q:Int))/\Below w.heap.size w wr):=⟨hA.congr (fun j hj=>zV hj),hbel⟩
   clear hA hbel hC;go_wp2_with fail;go_ret;exact⟨rfl,HE.out.1,HE.out.2⟩
def seg (ps:List Int) (a b:Int):List Int:=ps.filter (fun x=>decide (a<=x/\x<b))
theorem Rn (h:Asc ps) (a b:Int):Asc (seg ps a b):=h.filter _
theorem aEK{a b:Int}:x∈seg ps a b↔x∈ps/\a<=x/\x<b:=by simp[seg]
theorem Ro{a b:Int}:(seg ps a b).length=0↔smb ps a b=false:=by
 unfold seg smb;rw[List.length_eq_zero_iff,List.filter_eq_nil_iff,List.any_eq_false]
theorem Pe:∀ (l:List Int) (a:Int) (c:Nat),Asc l->(∀ x∈l,a<=x/\x<a+(c:Int))->l.length<=c
 | [],_,_,_,_=>Nat.zero_le _
 | x :: l,a,c,h,hb=>by obtain⟨h1,h2⟩:=List.pairwise_cons.1 h;have hx:=hb x (by simp);have:=Pe l (x+1) (a+(c:Int)-(x+1)).toNat h2 (fun y hy=>⟨h1 y hy,by have:=(hb y (by simp[hy])).2;omega⟩);simp only[List.length_cons];omega
theorem Ym (h:Asc ps) (a:Int) (c:Nat):(seg ps a (a+(c:Int))).length<=c:=Pe _ a c (Rn h _ _) (fun _ hx=>(aEK.1 hx).2)
theorem aAr:∀ (l:List Int) (m:Int),Asc l->l=l.filter (fun x=>decide (x<m))++l.filter (fun x=>decide (m<=x))
 | [],_,_=>rfl
 | x :: l,m,h=>by
  obtain⟨h1,h2⟩:=List.pairwise_cons.1 h;by_cases hx:x<m
  ·rw[List.filter_cons_of_pos (by simpa using hx),List.filter_cons_of_neg (by simpa using hx),List.cons_append,<- aAr l m h2]
  ·have e1:l.filter (fun x=>decide (x<m))=[]:=List.filter_eq_nil_iff.2 (fun y hy=>by have:=h1 y hy;simp;omega);have e2:l.filter (fun x=>decide (m<=x))=l:=List.filter_eq_self.2 (fun y hy=>by have:=h1 y hy;simp;omega);rw[List.filter_cons_of_neg (by simpa using hx),List.filter_cons_of_pos (by simpa using hx),e1,e2];rfl
theorem Ve (ps:List Int) {a m b:Int} (h:m<=b):(seg ps a b).filter (fun x=>decide (x<m))=seg ps a m:=by
 unfold seg;rw[List.filter_filter]
 congr 1
 funext x
 rw[Bool.eq_iff_iff];simp;omega
theorem aBm (ps:List Int) {a m b:Int} (h:a<=m):(seg ps a b).filter (fun x=>decide (m<=x))=seg ps m b:=by
 unfold seg;rw[List.filter_filter]
 congr 1
 funext x
 rw[Bool.eq_iff_iff];simp;omega
theorem Pf (h:Asc ps) {a m b:Int} (h1:a<=m) (h2:m<=b):seg ps a b=seg ps a m++seg ps m b:=by
 have:=aAr (seg ps a b) m (Rn h a b)
 rwa [Ve ps h2,aBm ps h1] at this
def hd2 (ps:List Int):Nat->Nat->Nat->List (Nat × Nat)
 | 0,_,_=>[]
 | k+1,a,c=>if smb ps (a:Int) ((a:Int)+(c:Int))=false then [(a,a+c)] else if c=1 then [] else hd2 ps k a (lft c)++hd2 ps k (a+lft c) (c-lft c)
theorem Hu (h:smb ps (a:Int) ((a:Int)+(c:Int))=false):hd2 ps (k+1) a c=[(a,a+c)]:=by rw[hd2,if_pos h]
theorem Nj {ps:List Int} (h:Asc ps):∀ (k a c:Nat),1<=c->c<=k->(seg ps (a:Int) ((a:Int)+(c:Int))).length=c->hd2 ps k a c=[]
 | 0,_,_,h1,h2,_=>by omega
 | k+1,a,c,h1,h2,hs=>by
  rw[hd2,if_neg (fun e=>by have:=Ro.2 e;omega)];by_cases hc:c=1
  ·rw[if_pos hc]
  ·rw[if_neg hc];obtain⟨_,l2,l3⟩:=zJ c;have l3':=l3 (by omega);have e:=congrArg List.length (Pf h (a:=(a:Int)) (m:=(a:Int)+(lft c:Int)) (b:=(a:Int)+(c:Int)) (by omega) (by omega));rw[hs,List.length_append] at e;have e1:=Ym h (a:Int) (lft c);have e2:=Ym h ((a:Int)+(lft c:Int)) (c-lft c);rw[show (a:Int)+(lft c:Int)+((c-lft c:Nat):Int)=(a:Int)+(c:Int) by omega] at e2;rw[Nj h k a (lft c) (by omega) (by omega) (by omega)];rw[Nj h k (a+lft c) (c-lft c) (by omega) (by omega) (by rw[show ((a+lft c:Nat):Int)=(a:Int)+(lft c:Int) by omega,show (a:Int)+(lft c:Int)+((c-lft c:Nat):Int)=(a:Int)+(c:Int) by omega];omega)];rfl
theorem Hw (h:smb ps (a:Int) ((a:Int)+(c:Int))≠false) (hc:c≠1):hd2 ps (k+1) a c=hd2 ps k a (lft c)++hd2 ps k (a+lft c) (c-lft c):=by rw[hd2,if_neg h,if_neg hc]
theorem Er (ps:List Int):∀ (k a c:Nat),1<=c->c<=k->(hd2 ps k a c).length<=c
 | 0,_,_,h1,h2=>by omega
 | k+1,a,c,h1,h2=>by
  rw[hd2];split
  ·simpa using h1
  ·split
   ·simp
   ·obtain⟨_,l2,l3⟩:=zJ c;have l3':=l3 (by omega);have e1:=Er ps k a (lft c) (by omega) (by omega);have e2:=Er ps k (a+lft c) (c-lft c) (by omega) (by omega);rw[List.length_append];omega
theorem Es (ps:List Int):∀ (k a c:Nat),1<=c->c<=k->∀ g∈hd2 ps k a c,a<=g.1/\g.1<g.2/\g.2<=a+c/\smb ps (g.1:Int) (g.2:Int)=false
 | 0,_,_,h1,h2=>by omega
 | k+1,a,c,h1,h2=>by
  intro g hg;rw[hd2] at hg;split at hg
  ·rename_i h
   rw[List.mem_singleton.1 hg];refine⟨Nat.le_refl _,by show a<a+c;omega,Nat.le_refl _,?_⟩;rw[<- h]
   congr 1
  ·split at hg
   ·cases hg
   ·obtain⟨_,l2,l3⟩:=zJ c;have l3':=l3 (by omega);rcases List.mem_append.1 hg with hg | hg
    ·have:=Es ps k a (lft c) (by omega) (by omega) g hg;exact⟨this.1,this.2.1,by omega,this.2.2.2⟩
    ·have:=Es ps k (a+lft c) (c-lft c) (by omega) (by omega) g hg;exact⟨by omega,this.2.1,by omega,this.2.2.2⟩
theorem Io (ps:List Int):∀ (k a c:Nat),1<=c->c<=k->(hd2 ps k a c).Pairwise (fun x y=>x.2<=y.1)
 | 0,_,_,h1,h2=>by omega
 | k+1,a,c,h1,h2=>by
  rw[hd2];split
  ·simp
  ·split
   ·simp
   ·obtain⟨_,l2,l3⟩:=zJ c;have l3':=l3 (by omega);rw[List.pairwise_append];refine⟨Io ps k a (lft c) (by omega) (by omega),Io ps k (a+lft c) (c-lft c) (by omega) (by omega),fun x hx y hy=>?_⟩;have e1:=Es ps k a (lft c) (by omega) (by omega) x hx;have e2:=Es ps k (a+lft c) (c-lft c) (by omega) (by omega) y hy;omega
def Bo (nodes:List (List Int)) (t n:Nat):Prop:=∀ i,i<n->t+i<nodes.length/\(rat nodes (t+i)).length=4
theorem Yn (q n:Nat) (ps:List Int) (rows nodes:List (List Int)):∀ (k:Nat) (first:Int) (cnt t:Nat),(upf q n ps rows nodes k first cnt t true).2.2=true
 | 0,_,_,_=>rfl
 | k+1,first,cnt,t=>by
  simp only[upf];split
  ·split <;> rfl
  ·split
   ·rfl
   ·rw[Yn q n ps rows nodes k];exact Yn q n ps rows nodes k _ _ _
theorem Ef (q n:Nat) (ps:List Int) (rows nodes:List (List Int)):∀ (k a c t:Nat) (bad:Bool),1<=c->c<=k ->
  (Bo nodes t (hd2 ps k a c).length->(upf q n ps rows nodes k (a:Int) c t bad).2=(t+(hd2 ps k a c).length,bad))/\(¬ Bo nodes t (hd2 ps k a c).length->(upf q n ps rows nodes k (a:Int) c t bad).2.2=true)
 | 0,_,_,_,_,h1,h2=>by omega
 | k+1,a,c,t,bad,h1,h2=>by
  simp only[upf];by_cases hs:smb ps (a:Int) ((a:Int)+(c:Int))=false
  ·rw[if_pos hs,Hu hs];by_cases hb:nodes.length<=t∨(rat nodes t).length≠4
   ·rw[if_pos hb];refine⟨fun h=>?_,fun _=>rfl⟩;have:=h 0 (by simp);rw[Nat.add_zero] at this;omega
   ·rw[if_neg hb];refine⟨fun _=>rfl,fun h=>absurd (fun i hi=>?_) h⟩;rw[show i=0 from by simp at hi;omega,Nat.add_zero];omega
  ·rw[if_neg hs];by_cases hc:c=1
   ·rw[if_pos hc,hd2,if_neg hs,if_pos hc];exact⟨fun _=>rfl,fun h=>absurd (fun i hi=>by simp at hi) h⟩
   ·rw[if_neg hc,Hw hs hc,List.length_append];obtain⟨_,l2,l3⟩:=zJ c;have l3':=l3 (by omega);obtain⟨a1,a2⟩:=Ef q n ps rows nodes k a (lft c) t bad (by omega) (by omega);rw[show (a:Int)+((lft c:Nat):Int)=((a+lft c:Nat):Int) by omega];by_cases hA:Bo nodes t (hd2 ps k a (lft c)).length
    ·rw[a1 hA];obtain⟨b1,b2⟩:=Ef q n ps rows nodes k (a+lft c) (c-lft c) (t+(hd2 ps k a (lft c)).length) bad (by omega) (by omega);refine⟨fun h=>?_,fun h=>?_⟩
     ·show (upf q n ps rows nodes k ((a+lft c:Nat):Int) (c-lft c) (t+(hd2 ps k a (lft c)).length) bad).2=_;rw[b1 (fun i hi=>by have:=h ((hd2 ps k a (lft c)).length+i) (by omega);rwa [<- Nat.add_assoc] at this),Nat.add_assoc]
     ·refine b2 (fun hB=>h (fun i hi=>?_));by_cases hi':i<(hd2 ps k a (lft c)).length
      ·exact hA i hi'
      ·have:=hB (i-(hd2 ps k a (lft c)).length) (by omega)
       rwa [show t+(hd2 ps k a (lft c)).length+(i-(hd2 ps k a (lft c)).length)=t+i by omega] at this
    ·refine⟨fun h=>absurd (fun i hi=>h i (by omega)) hA,fun _=>?_⟩;rw[a2 hA];exact Yn q n ps rows nodes k _ _ _
inductive Rd (q n:Nat) (M:Nat->Nat->Option (List Int)):Nat->Nat->List Int->Prop
 | found {a b:Nat} {d:List Int}:M a b=some d->Rd q n M a b d
 | node {a b:Nat} {da db:List Int}:M a b=none->2<=b-a->Rd q n M a (a+lft (b-a)) da->Rd q n M (a+lft (b-a)) b db->Rd q n M a b (digl q n (1 :: (da++db)))
theorem Rd.det{M:Nat->Nat->Option (List Int)}{d':List Int} (h:Rd q n M a b d):Rd q n M a b d'->d=d':=by
 induction h generalizing d' with
 | found e =>
  intro h';cases h' with
  | found e'=>rw[e] at e';cases e';rfl
  | node e'=>rw[e] at e';cases e'
 | node e _ _ _ ih1 ih2 =>
  intro h';cases h' with
  | found e'=>rw[e] at e';cases e'
  | node _ _ r1 r2=>rw[ih1 r1,ih2 r2]
open Classical in
noncomputable def DV (q n:Nat) (M:Nat->Nat->Option (List Int)) (a b:Nat):List Int:=if h:∃ d,Rd q n M a b d then h.choose else [0,0,0,0]
theorem Pg{M:Nat->Nat->Option (List Int)} (h:Rd q n M a b d):DV q n M a b=d:=by
 unfold DV;rw[dif_pos ⟨d,h⟩];exact (Exists.choose_spec (⟨d,h⟩:∃ d,Rd q n M a b d)).det h
inductive Rdy (q n:Nat) (D:Nat->Nat->List Int) (M:Nat->Nat->Option (List Int)):Nat->Nat->Prop
 | found {a b:Nat}:M a b≠none->Rdy q n D M a b
 | node {a b:Nat}:2<=b-a->D a b=digl q n (1 :: (D a (a+lft (b-a))++D (a+lft (b-a)) b))->Rdy q n D M a (a+lft (b-a))->Rdy q n D M (a+lft (b-a)) b->Rdy q n D M a b
theorem Rd.rdy{M:Nat->Nat->Option (List Int)} (h:Rd q n M a b d):Rdy q n (DV q n M) M a b:=by
 induction h with
 | found e=>exact .found (by rw[e];simp)
 | node e h2 r1 r2 ih1 ih2=>exact .node h2 (by rw[Pg r1,Pg r2,Pg (.node e h2 r1 r2)]) ih1 ih2
def Dgst (q:Nat) (d:List Int):Prop:=d.length=4/\∀ j,j<4->0<=zat d j/\zat d j<(q:Int)
theorem Dgst.fits (h:Dgst q d) (h4:q<=2147483647):Fits d:=fun j hj=>by
 have:=h.2 j (by rw[<- h.1];exact hj);omega
theorem Dgst.elr (h:d.length=4) (hq:0<q):Dgst q (elr q d):=by
 refine⟨by unfold Go.Proofs.YtkdndfbfmchcpaaGreatDoor.elr;rw[kQ];exact h,fun j hj=>?_⟩;unfold Go.Proofs.YtkdndfbfmchcpaaGreatDoor.elr;rw[kZ _ _ _ (by omega)];exact⟨Int.emod_nonneg _ (by omega),Int.emod_lt_of_pos _ (by omega)⟩
theorem Dgst.digl (h3:3<=q) (n:Nat) (l:List Int):Dgst q (digl q n l):=by
 rw[<- Hr h3 n l];exact Dgst.elr (yK _ _ _) (by omega)
theorem Dgst.zero (hq:0<q):Dgst q [0,0,0,0]:=⟨rfl,fun j hj=>by
 have:zat [0,0,0,0] j=0:=by rcases j with _ | _ | _ | _ | j <;> first | rfl | omega
 omega⟩
theorem Rd.dgst (h3:3<=q) {M:Nat->Nat->Option (List Int)} (hM:∀ a b d,M a b=some d->Dgst q d) {a b:Nat} {d:List Int} (h:Rd q n M a b d):Dgst q d:=by
 cases h with
 | found e=>exact hM _ _ _ e
 | node=>exact Dgst.digl h3 n _
theorem aEL (h3:3<=q) {M:Nat->Nat->Option (List Int)} (hM:∀ a b d,M a b=some d->Dgst q d) (a b:Nat):Dgst q (DV q n M a b):=by
 by_cases h:∃ d,Rd q n M a b d
 ·obtain⟨d,hd⟩:=h;rw[Pg hd];exact hd.dgst h3 hM
 ·unfold DV;rw[dif_neg h];exact Dgst.zero (by omega)
def Eg (l:List ((Nat × Nat) × List Int)):Nat->Nat->Option (List Int):=l.foldl (fun M p=>upd M p.1.1 p.1.2 p.2) (fun _ _=>none)
theorem Ph (l:List ((Nat × Nat) × List Int)) (p:(Nat × Nat) × List Int):Eg (l++[p])=upd (Eg l) p.1.1 p.1.2 p.2:=by simp[Eg]
theorem Vf:∀ (l:List ((Nat × Nat) × List Int)) (M:Nat->Nat->Option (List Int)) (a b:Nat) (d:List Int),l.foldl (fun M p=>upd M p.1.1 p.1.2 p.2) M a b=some d->((a,b),d)∈l∨M a b=some d
 | [],_,_,_,_,h=>.inr h
 | p :: l,M,a,b,d,h=>by
  rcases Vf l _ a b d h with h | h
  ·exact .inl (List.mem_cons_of_mem _ h)
  ·replace h:upd M p.1.1 p.1.2 p.2 a b=some d:=h;by_cases hc:a=p.1.1/\b=p.1.2
   ·rw[hc.1,hc.2,Am] at h;cases h;rw[hc.1,hc.2];exact .inl (by simp)
   ·rw[yQ hc] at h;exact .inr h
theorem Nk (l:List ((Nat × Nat) × List Int)) (a b:Nat) (d:List Int) (h:Eg l a b=some d):((a,b),d)∈l:=(Vf l _ a b d h).resolve_right (by simp)
theorem Vg:∀ (l:List ((Nat × Nat) × List Int)) (M:Nat->Nat->Option (List Int)) (p:(Nat × Nat) × List Int),p∈l∨M p.1.1 p.1.2≠none->l.foldl (fun M p=>upd M p.1.1 p.1.2 p.2) M p.1.1 p.1.2≠none
 | [],_,_,h=>h.resolve_left (by simp)
 | p' :: l,M,p,h=>by
  refine Vg l _ p ?_;show p∈l∨upd M p'.1.1 p'.1.2 p'.2 p.1.1 p.1.2≠none;by_cases hc:p.1.1=p'.1.1/\p.1.2=p'.1.2
  ·exact .inr (by rw[hc.1,hc.2,Am];simp)
  ·rw[yQ hc];rcases h with h | h
   ·rcases List.mem_cons.1 h with h | h
    ·rw[h] at hc;exact absurd ⟨rfl,rfl⟩ hc
    ·exact .inl h
   ·exact .inr h
theorem aD3 (l:List ((Nat × Nat) × List Int)) (p:(Nat × Nat) × List Int) (h:p∈l):Eg l p.1.1 p.1.2≠none:=Vg l _ p (.inl h)
theorem Vh{l:List ((Nat × Nat) × List Int)} (h:((a,b),d)∈l) (hu:∀ d',((a,b),d')∈l->d'=d):Eg l a b=some d:=by
 cases e:Eg l a b with
 | none=>exact absurd e (aD3 l _ h)
 | some d'=>rw[hu d' (Nk l a b d' e)]
theorem aGa{α:Type} (a b:List α) (d:α) {i:Nat} (h:i<a.length):(a++b).getD i d=a.getD i d:=by simp[List.getD_eq_getElem?_getD,List.getElem?_append_left h]
theorem aGb{α:Type} (a b:List α) (d:α) {i:Nat} (h:a.length<=i):(a++b).getD i d=b.getD (i-a.length) d:=by simp[List.getD_eq_getElem?_getD,List.getElem?_append_right h]
theorem aAs{α:Type} (a:List α) (d:α) {i:Nat} (h:i<a.length):a.getD i d=a[i]:=by simp[List.getD_eq_getElem?_getD,h]
theorem aD4 (q n:Nat) (ps:List Int) (rows nodes:List (List Int)) (M:Nat->Nat->Option (List Int)):∀ (k a c t:Nat) (bad:Bool),1<=c->c<=k->Bo nodes t (hd2 ps k a c).length ->
  (∀ i,i<(hd2 ps k a c).length->M ((hd2 ps k a c).getD i (0,0)).1 ((hd2 ps k a c).getD i (0,0)).2=some (elr q (rat nodes (t+i)))) ->
  (∀ j,j<ps.length->(a:Int)<=zat ps j->zat ps j<(a:Int)+(c:Int)->M (zat ps j).toNat ((zat ps j).toNat+1)=some (digl q n (0 :: rat rows j))) ->
  (∀ x y:Nat,a<=x->y<=a+c->2<=y-x->smb ps (x:Int) (y:Int)=true->M x y=none)->Rd q n M a (a+c) (upf q n ps rows nodes k (a:Int) c t bad).1
 | 0,_,_,_,_,h1,h2,_,_,_,_=>by omega
 | k+1,a,c,t,bad,h1,h2,hN,H1,H2,H3=>by
  simp only[upf];by_cases hs:smb ps (a:Int) ((a:Int)+(c:Int))=false
  ·rw[Hu hs] at hN H1;have e0:=hN 0 (by simp);have e1:=H1 0 (by simp);rw[Nat.add_zero] at e0 e1;rw[if_pos hs,if_neg (by omega)];exact .found e1
  ·rw[if_neg hs];by_cases hc:c=1
   ·rw[if_pos hc];subst hc;obtain⟨j,j1,j2,j3⟩:=Pv.1 ((Bool.eq_false_or_eq_true _).resolve_right hs);obtain⟨f1,f2⟩:=aAp (x:=(a:Int)) ⟨j,j1,by omega⟩;have:=H2 _ f1 (by omega) (by omega);rw[f2,Int.toNat_natCast] at this;exact .found this
   ·rw[if_neg hc];rw[Hw hs hc] at hN H1;rw[List.length_append] at hN H1;obtain⟨_,l2,l3⟩:=zJ c;have l3':=l3 (by omega);have hA:Bo nodes t (hd2 ps k a (lft c)).length:=fun i hi=>hN i (by omega);have hB:Bo nodes (t+(hd2 ps k a (lft c)).length) (hd2 ps k (a+lft c) (c-lft c)).length:=fun i hi=>by have:=hN ((hd2 ps k a (lft c)).length+i) (by omega);rwa [<- Nat.add_assoc] at this
    have rA:=aD4 q n ps rows nodes M k a (lft c) t bad (by omega) (by omega) hA
     (fun i hi=>by have:=H1 i (by omega);rwa [aGa _ _ _ hi] at this)
     (fun j hj x1 x2=>H2 j hj x1 (by omega)) (fun x y hx hy hxy=>H3 x y hx (by omega) hxy)
    have eA:=(Ef q n ps rows nodes k a (lft c) t bad (by omega) (by omega)).1 hA;rw[show (a:Int)+((lft c:Nat):Int)=((a+lft c:Nat):Int) by omega,eA]
    have rB:=aD4 q n ps rows nodes M k (a+lft c) (c-lft c) (t+(hd2 ps k a (lft c)).length) bad (by omega) (by omega) hB
     (fun i hi=>by have:=H1 ((hd2 ps k a (lft c)).length+i) (by omega);rwa [aGb _ _ _ (by omega),Nat.add_sub_cancel_left,<- Nat.add_assoc] at this)
     (fun j hj x1 x2=>H2 j hj (by omega) (by omega)) (fun x y hx hy hxy=>H3 x y (by omega) (by omega) hxy)
    have e:a+c-a=c:=by omega
    have e2:a+lft c+(c-lft c)=a+c:=by omega
    rw[e2] at rB;refine .node (H3 a (a+c) (Nat.le_refl _) (Nat.le_refl _) (by omega) ?_) (by omega) (by rw[e];exact rA) (by rw[e];exact rB);rw[show ((a+c:Nat):Int)=(a:Int)+(c:Int) by omega];exact (Bool.eq_false_or_eq_true _).resolve_right hs
def L1 (q:Nat) (hd:List (Nat × Nat)) (nodes:List (List Int)) (k:Nat):List ((Nat × Nat) × List Int):=(List.range k).map (fun i=>(hd.getD i (0,0),elr q (rat nodes i)))
def L2 (q n:Nat) (ps:List Int) (rows:List (List Int)) (k:Nat):List ((Nat × Nat) × List Int):=(List.range k).map (fun i=>(((zat ps i).toNat,(zat ps i).toNat+1),digl q n (0 :: rat rows i)))
theorem aEM (q:Nat) (hd:List (Nat × Nat)) (nodes:List (List Int)) (k:Nat):L1 q hd nodes (k+1)=L1 q hd nodes k++[(hd.getD k (0,0),elr q (rat nodes k))]:=by simp[L1,List.range_succ]
theorem aEN (q n:Nat) (ps:List Int) (rows:List (List Int)) (k:Nat):L2 q n ps rows (k+1)=L2 q n ps rows k++[(((zat ps k).toNat,(zat ps k).toNat+1),digl q n (0 :: rat rows k))]:=by simp[L2,List.range_succ]
def M0 (q n:Nat) (N:Nat) (ps:List Int) (rows nodes:List (List Int)):Nat->Nat->Option (List Int):=Eg (L1 q (hd2 ps N 0 N) nodes (hd2 ps N 0 N).length++L2 q n ps rows ps.length)
theorem Rp{N:Int} (h:Dk N ps):Asc ps:=by
 unfold Asc;rw[List.pairwise_iff_getElem]
 have key:∀ (m i:Nat),i+m+1<ps.length->zat ps i<zat ps (i+m+1):=by
  intro m
  induction m with
  | zero=>intro i hi;have:=(h (i+1) (by omega)).2.2 (by omega);simpa using this
  | succ m ih =>
   intro i hi;have e1:=ih i (by omega);have e2:=(h (i+(m+1)+1) hi).2.2 (by omega);rw[show i+(m+1)+1-1=i+m+1 by omega] at e2;omega
 intro i j hi hj hij;have:=key (j-i-1) i (by omega);rw[show i+(j-i-1)+1=j by omega] at this;simpa [zat,hi,hj] using this
theorem aEO (h:Asc ps) {i j:Nat} (hi:i<ps.length) (hj:j<ps.length) (e:zat ps i=zat ps j):i=j:=by
 have:=List.pairwise_iff_getElem.1 h;simp only[zat,List.getElem?_eq_getElem hi,List.getElem?_eq_getElem hj,Option.getD_some] at e;rcases Nat.lt_trichotomy i j with hl | hl | hl
 ·have:=this i j hi hj hl;omega
 ·exact hl
 ·have:=this j i hj hi hl;omega
theorem aFI{j:Nat} (h1:1<=N) (hi:i<(hd2 ps N 0 N).length) (hj:j<(hd2 ps N 0 N).length) (e:(hd2 ps N 0 N).getD i (0,0)=(hd2 ps N 0 N).getD j (0,0)):i=j:=by
 have ap:=List.pairwise_iff_getElem.1 (Io ps N 0 N h1 (Nat.le_refl _));have me:=Es ps N 0 N h1 (Nat.le_refl _);rw[aAs _ _ hi,aAs _ _ hj] at e;have mi:=me _ (List.getElem_mem hi);have mj:=me _ (List.getElem_mem hj);rcases Nat.lt_trichotomy i j with hl | hl | hl
 ·have:=ap i j hi hj hl;rw[e] at this mi;omega
 ·exact hl
 ·have:=ap j i hj hi hl;rw[e] at this mi;omega
theorem Vi (h1:1<=N) (hi:i<(hd2 ps N 0 N).length):((hd2 ps N 0 N).getD i (0,0)).1<((hd2 ps N 0 N).getD i (0,0)).2/\((hd2 ps N 0 N).getD i (0,0)).2<=N/\smb ps (((hd2 ps N 0 N).getD i (0,0)).1:Int) (((hd2 ps N 0 N).getD i (0,0)).2:Int)=false:=by
 have me:=Es ps N 0 N h1 (Nat.le_refl _) _ (List.getElem_mem hi);rw[aAs _ _ hi];exact⟨me.2.1,by omega,me.2.2.2⟩
theorem aAt{N:Int} (h:Dk N ps) {j:Nat} (hj:j<ps.length):smb ps ((zat ps j).toNat:Int) (((zat ps j).toNat+1:Nat):Int)=true:=Pv.2 ⟨j,hj,by have:=(h j hj).1;omega,by have:=(h j hj).1;omega⟩
theorem aGc (h1:1<=N) (hps:Dk (N:Int) ps) {i:Nat} (hi:i<(hd2 ps N 0 N).length):M0 q n N ps rows nodes ((hd2 ps N 0 N).getD i (0,0)).1 ((hd2 ps N 0 N).getD i (0,0)).2=some (elr q (rat nodes i)):=by
 refine Vh (List.mem_append.2 (.inl (List.mem_map.2 ⟨i,List.mem_range.2 hi,rfl⟩))) (fun d' hd'=>?_);rcases List.mem_append.1 hd' with hd' | hd'
 ·obtain⟨j,hj,e⟩:=List.mem_map.1 hd';rw[Prod.mk.injEq] at e;rw[aFI h1 (List.mem_range.1 hj) hi e.1] at e;exact e.2.symm
 ·obtain⟨j,hj,e⟩:=List.mem_map.1 hd';have hr:=aAt hps (List.mem_range.1 hj);have hh:=(Vi h1 hi).2.2;simp only[Prod.mk.injEq] at e;rw[<- e.1.1,<- e.1.2,hr] at hh;cases hh
theorem aFJ (h1:1<=N) (hps:Dk (N:Int) ps) {j:Nat} (hj:j<ps.length):M0 q n N ps rows nodes (zat ps j).toNat ((zat ps j).toNat+1)=some (digl q n (0 :: rat rows j)):=by
 refine Vh (List.mem_append.2 (.inr (List.mem_map.2 ⟨j,List.mem_range.2 hj,rfl⟩))) (fun d' hd'=>?_);rcases List.mem_append.1 hd' with hd' | hd'
 ·obtain⟨i,hi,e⟩:=List.mem_map.1 hd';have hr:=aAt hps hj;have hh:=(Vi h1 (List.mem_range.1 hi)).2.2;simp only[Prod.mk.injEq] at e;rw[e.1,hr] at hh;cases hh
 ·obtain⟨i,hi,e⟩:=List.mem_map.1 hd';simp only[Prod.mk.injEq] at e;have a1:=(hps i (List.mem_range.1 hi)).1;have a2:=(hps j hj).1;rw[aEO (Rp hps) (List.mem_range.1 hi) hj (by omega)] at e;exact e.2.symm
theorem aEP (h1:1<=N) {x y:Nat} (hxy:2<=y-x) (hs:smb ps (x:Int) (y:Int)=true):M0 q n N ps rows nodes x y=none:=by
 cases e:M0 q n N ps rows nodes x y with
 | none=>rfl
 | some d =>
  rcases List.mem_append.1 (Nk _ _ _ _ e) with hd' | hd'
  ·obtain⟨i,hi,e⟩:=List.mem_map.1 hd';have hh:=(Vi (ps:=ps) h1 (List.mem_range.1 hi)).2.2;simp only[Prod.mk.injEq] at e;rw[e.1,hs] at hh;cases hh
  ·obtain⟨i,hi,e⟩:=List.mem_map.1 hd';simp only[Prod.mk.injEq] at e;omega
theorem aEQ (h3:3<=q) {ps:List Int} {rows nodes:List (List Int)} (hN:Bo nodes 0 (hd2 ps N 0 N).length) (a b:Nat) (d:List Int) (h:M0 q n N ps rows nodes a b=some d):Dgst q d:=by
 rcases List.mem_append.1 (Nk _ _ _ _ h) with hd' | hd'
 ·obtain⟨i,hi,e⟩:=List.mem_map.1 hd';simp only[Prod.mk.injEq] at e;rw[<- e.2];have:=(hN i (List.mem_range.1 hi)).2;rw[Nat.zero_add] at this;exact Dgst.elr this (by omega)
 ·obtain⟨i,hi,e⟩:=List.mem_map.1 hd';simp only[Prod.mk.injEq] at e;rw[<- e.2];exact Dgst.digl h3 n _
def Jp (N:Nat) (ps:List Int) (rows nodes:List (List Int)):Prop:=rows.length=ps.length/\Dk (N:Int) ps/\(∀ i,i<nodes.length->(rat nodes i).length=4)/\nodes.length=(hd2 ps N 0 N).length
theorem Rq (h:Jp N ps rows nodes):Bo nodes 0 (hd2 ps N 0 N).length:=fun i hi=>by
 rw[Nat.zero_add];exact⟨by rw[h.2.2.2];exact hi,h.2.2.1 i (by rw[h.2.2.2];exact hi)⟩
theorem aAu (h1:1<=N) (h:Jp N ps rows nodes):Rd q n (M0 q n N ps rows nodes) 0 N (upf q n ps rows nodes N 0 N 0 false).1:=by
 have:=aD4 q n ps rows nodes (M0 q n N ps rows nodes) N 0 N 0 false h1 (Nat.le_refl _) (Rq h) (fun i hi=>by rw[Nat.zero_add];exact aGc h1 h.2.1 hi) (fun j hj _ _=>aFJ h1 h.2.1 hj) (fun x y _ _ hxy hs=>aEP h1 hxy hs);rw[Nat.zero_add] at this;exact this
theorem aD5 (h3:3<=q) {root ps:List Int} {rows nodes:List (List Int)} (h1:1<=N) (h2:N<=65536) (h4:root.length=4) (h:Jp N ps rows nodes) :
  Eu q n root (N:Int) ps rows nodes=decide (DV q n (M0 q n N ps rows nodes) 0 N=elr q root):=by
 rw[Nh ⟨by omega,by omega,h.1,h4,h.2.1⟩,Int.toNat_natCast];have e:=(Ef q n ps rows nodes N 0 N 0 false h1 (Nat.le_refl _)).1 (Rq h);rw[show ((0:Nat):Int)=0 from rfl] at e;rw[e,Pg (aAu h1 h),Bool.eq_iff_iff,decide_eq_true_iff];simp only[Bool.not_false,Bool.and_true,Nat.zero_add,h.2.2.2,beq_self_eq_true];rw[aD0,<- Hs,<- Hs,aEJ h3]
theorem aER{root:List Int} (h1:1<=N) (h:¬ Jp N ps rows nodes):Eu q n root (N:Int) ps rows nodes=false:=by
 by_cases hc:1<=(N:Int)/\(N:Int)<=65536/\rows.length=ps.length/\root.length=4/\Dk (N:Int) ps
 ·rw[Nh hc,Int.toNat_natCast];obtain⟨e1,e2⟩:=Ef q n ps rows nodes N 0 N 0 false h1 (Nat.le_refl _);rw[show ((0:Nat):Int)=0 from rfl] at e1 e2;by_cases hN:Bo nodes 0 (hd2 ps N 0 N).length
  ·rw[e1 hN];have:¬ (hd2 ps N 0 N).length=nodes.length:=fun e=>h ⟨hc.2.2.1,hc.2.2.2.2,fun i hi=>by have:=(hN i (by omega)).2;rwa [Nat.zero_add] at this,e.symm⟩;simp[this]
  ·rw[e2 hN];simp
 ·exact Rl hc
end Go.Proofs.YtkdndfbfmchcpaaGreatDoor
