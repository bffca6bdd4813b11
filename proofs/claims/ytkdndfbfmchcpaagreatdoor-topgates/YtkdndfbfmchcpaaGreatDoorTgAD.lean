
import Derived.BigRegionIn
import Derived.Test.YtkdndfbfmchcpaaGreatDoorTgAC
set_option maxRecDepth 1000000
set_option maxHeartbeats 8000000
namespace Go.Proofs.YtkdndfbfmchcpaaGreatDoor
variable {A B C w:World}{g j k m n0 q t:Nat}
open Go.RowKit Go.Shelf
attribute [local go_sem] Oper.semAt_some
def Bt {m:Nat} (pre:List (Fin m)) (k:Nat):Prop:=pre.map (fun i=>i.val)=List.range k
theorem Oh (m:Nat):Bt ([]:List (Fin m)) 0:=rfl
theorem Ll{pre:List (Fin m)} (h:Bt pre k) (x:Fin m) (hx:x.val=k):Bt (pre++[x]) (k+1):=by
 unfold Bt at *;rw[List.map_append,h,List.range_succ];simp[hx]
theorem Ax{pre:List (Fin m)} (h:Bt pre k):pre.length=k:=by
 have:=congrArg List.length h;simpa using this
theorem aAJ{pre:List (Fin m)}{x:Fin m} (h:Bt (pre++[x]) (k+1)):Bt pre k/\x.val=k:=by
 unfold Bt at *;rw[List.map_append,List.range_succ] at h;obtain⟨h1,h2⟩:=List.append_inj' h rfl;exact⟨h1,by simpa using h2⟩
def KeepsC (Bs:Nat) (A B:World):Prop:=B.cell? ⟨Bs,0,none⟩=A.cell? ⟨Bs,0,none⟩/\B.cell? ⟨Bs+1,0,none⟩=A.cell? ⟨Bs+1,0,none⟩
theorem KeepsC.refl (Bs:Nat) (A:World):KeepsC Bs A A:=⟨rfl,rfl⟩
theorem KeepsC.trans{Bs:Nat} (h:KeepsC Bs A B) (k:KeepsC Bs B C):KeepsC Bs A C:=⟨k.1.trans h.1,k.2.trans h.2⟩
theorem aAK (F:Fence) (n:Nat) (hf:F.fn 153) (hro:F.round=none) (hn:1<=n) (l Bs ap L m:Nat) (hL:L=4*m) (hlen:m<=140737488351232) (J Jx:List (Fin m)->World->Prop)
  (hAb:∀ s A B,J s A->A.grownBy B none->J s B)
  (hY:∀ pre x W,J pre W->pre.length<m->YieldAt F (n-1) Tryz.prog l #[.slice (some ⟨ap,4*x.val,none⟩) 4 4] W fun e W' =>
   (e=.returned (.bool true)/\J (pre++[x]) W'/\KeepsC Bs W W')∨(e=.returned (.bool false)/\Jx (pre++[x]) W'))
  (W:World) (hBs:W.cell? ⟨Bs,0,none⟩=some (.slice (some ⟨ap,0,none⟩) L L)) (hBn:W.cell? ⟨Bs+1,0,none⟩=some (.int .i64 4)) (h0:J [] W) :
  CallsIn F n Tryz.prog 153 #[.func (.yield l) #[] #[],.pointer (some ⟨Bs,0,none⟩),.pointer (some ⟨Bs+1,0,none⟩)] W fun e W'=>(∃ v,e=.returned v) /\
   ((∃ ys,Bt ys m/\J ys W')∨(∃ pre,True/\Jx pre W')):=by
 have hmx:Tryz.prog.follows .mixedOrders=true:=by kernel_rfl
 have HLM:=hid hL;have hLb:L<=562949953404928:=by omega
 clear hL;refine callsIn_of_wp Tryz.func153 rfl hf ?_ hro;simp only[Tryz.ntmps153,List.size_toArray,List.length_cons,List.length_nil,Nat.reduceAdd,Nat.reduceSub,Array.replicate_succ,Array.replicate_zero,List.push_toArray,List.append_toArray,List.nil_append,List.cons_append]
 gi_wp2
 gi_loopw [4] (fun i wr=>∃ (k:Nat) (pre:List (Fin m)) (I:Nat),k<=m/\i=.int .i64 (I:Int)/\Hid (I=4*k)/\Hid (Bt pre k)/\J pre wr/\Hid (KeepsC Bs W wr))
  (fun i _=>L-(intOf i).toNat)
 case atStart=>exact⟨0,[],0,by omega,rfl,rfl,Oh m,h0,KeepsC.refl _ _⟩
 case round =>
  obtain⟨k,pre,I,hk,rfl,hI,hcame,hJs,hkp⟩:=hrel;have hBs2:=hkp.out.1.trans hBs;have hBn2:=hkp.out.2.trans hBn;by_cases hlt:k<m
  ·have hIL:I+4<=L:=by have:=hI.out;have:=HLM.out;omega
   have hlt2:(I:Int)<(L:Int):=by omega
   have hle2:(I:Int)<=(L:Int):=by omega
   obtain⟨hJd⟩:Nonempty (Hid (J pre wr.drew)):=⟨hAb pre wr wr.drew hJs ⟨rfl,rfl,rfl,Nat.le_refl _,fun _ _ _=>rfl⟩⟩
   obtain⟨fn,tmps,assign,body,hy,hR⟩:=hY pre ⟨k,hlt⟩ wr.drew hJd.out (by rw[Ax hcame.out];omega);have HCM:=hid (Ll hcame.out ⟨k,hlt⟩ rfl);have hmin:min (4:Int) ((L-I:Nat):Int)=4:=by omega
   have hto:((I:Int)+4).toNat-I=4:=by omega
   have hs1:(I:Int)+4<=(L:Int):=by omega
   have hw1:IntKind.i64.wrap ((I:Int)+4)=(I:Int)+4:=by rw[IntKind.wrap_i64];omega
   dsimp only at hy;rw[<- hI.out] at hy
   gi_wp2
   gi_region
   all_goals
    gi_wp2
   all_goals
    refine hR.mono ?_;rintro e W3 (⟨rfl,hJ3,hk3⟩ | ⟨rfl,hJx3⟩)
    ·have HK3:Hid (KeepsC Bs W W3):=hkp.out.trans ((show KeepsC Bs wr W3 from hk3));have hBn3:=HK3.out.2.trans hBn;clear hk3 hkp hBs2 hBn2
     gi_wp2
     go_roundw
     case rel=>exact⟨k+1,_,I+4,by omega,by go_num,by have:=hI.out;show I+4=4*(k+1);omega,HCM,hJ3,HK3⟩
     case measure=>simp[intOf];omega
    ·gi_wp2
     refine bodyPost_ret (results_none rfl _ _ _) rfl ?_;exact⟨⟨_,rfl⟩,.inr ⟨_,trivial,hJx3⟩⟩
  ·have hge:¬ (I:Int)<(L:Int):=by have:=hI.out;have:=HLM.out;omega
   obtain rfl:k=m:=by omega
   gi_wp2
   go_end0;exact⟨⟨_,rfl⟩,.inl ⟨_,hcame.out,hJs⟩⟩
theorem aCt (F:Fence) (n:Nat) (hf:F.fn 113) (hro:F.round=none) (a:Option Addr) (len cap:Nat) (w:World) :
  CallsIn F n Tryz.prog 113 #[.slice a len cap,.int .i64 4] w fun e w'=>e=.returned (.func (.func 153) #[] #[.pointer (some ⟨w.heap.size,0,none⟩),.pointer (some ⟨w.heap.size+1,0,none⟩)])/\w'=(w.alloc (.cells #[.slice a len cap] 25)).alloc (.cells #[.int .i64 4] 3):=by
 refine callsIn_of_wp Tryz.func113 rfl hf ?_ hro;simp only[Tryz.ntmps113,List.size_toArray,List.length_cons,List.length_nil,Nat.reduceAdd,Nat.reduceSub,Array.replicate_succ,Array.replicate_zero,List.push_toArray,List.append_toArray,List.nil_append,List.cons_append]
 gi_wp2
 go_ret;exact⟨rfl,rfl⟩
theorem Sz (F:Fence) (n:Nat) (hf:F.fn 153) (hro:F.round=none) (hn:1<=n) (Bs ap L m:Nat) (hL:L=4*m) (hlen:m<=140737488351232) (w:World)
  (hBs:w.cell? ⟨Bs,0,none⟩=some (.slice (some ⟨ap,0,none⟩) L L)) (hBn:w.cell? ⟨Bs+1,0,none⟩=some (.int .i64 4)) (hbs:Bs+1<w.heap.size) :
  SeqStopsK F n Tryz.prog 153 #[.pointer (some ⟨Bs,0,none⟩),.pointer (some ⟨Bs+1,0,none⟩)] (fun x:Fin m=>#[Value.slice (some ⟨ap,4*x.val,none⟩) 4 4]) (KeepsC Bs) (fun ys=>Bt ys m)
   (fun _=>True) m w:=fun l J Jx W hW hJ _ hY h0 =>
 aAK F n hf hro hn l Bs ap L m hL hlen J Jx (fun s A B h1 h2=>hJ s A B none h1 h2 (fun _ e=>by cases e)) hY W ((hW.cell (p:=⟨Bs,0,none⟩) (by show Bs<_;omega)).trans hBs) ((hW.cell (p:=⟨Bs+1,0,none⟩) hbs).trans hBn) h0
theorem If{F:Fence}{P:Program}{ops:Array Oper}{rest:List Oper}{o:Oper}{a:Act}{Q:Exit->Act->World->Prop} (hgd:o.guard=none) (ty:TypeId) (x:Operand) (ho:o.op=.load ty x)
  (g:Nat) (hx:a.eval x=.pointer (some ⟨g,0,none⟩)) (t:TypeId) (n m:Nat) (e:TypeId) (f:Nat->Int) (hr:ArrI w g t n f) (hu:P.underlying ty=some (.array m e)) (hi:(P.info? ty).map (·.size)=some n)
  (h:wpListIn F n0 P ops Q rest (a.put o.dst (.agg (an n f))) w):wpListIn F n0 P ops Q (o :: rest) a w :=
 wpListIn_plain hgd fun K hK=>by
  have hrun:(execOp a.eval o).run P w=.ok (.value (.agg (an n f))) w:=by unfold execOp;simp only[ho,hx,Instr.loadAt,Instr.sureAddr,Sem.run_bind,Sem.run_pure,Result.andThen_ok,run_loadVar_row w g t ty (an n f) (0,0) _ hr.heap hu rfl (by rw[kV];exact hi)]
  unfold Oper.wpIn;rw[Oper.semAt_eq _ _ _ (by intro c;rw[ho];exact Op.noConfusion),hrun,Oper.uponIn_value];exact⟨fun f hf=>(by unfold Oper.about at hf;rw[ho] at hf;cases hf),hK _ _ h⟩
theorem Gh{F:Fence}{P:Program}{ops:Array Oper}{rest:List Oper}{o:Oper}{a:Act}{Q:Exit->Act->World->Prop} (hgd:o.guard=none) (ty:TypeId) (x y:Operand) (ho:o.op=.store ty x y)
  (g n:Nat) (f h0:Nat->Int) (hx:a.eval x=.pointer (some ⟨g,0,none⟩)) (hy:a.eval y=.agg (an n f)) (t:TypeId) (hr:ArrI w g t n h0) (hi:(P.info? ty).map (·.size)=some n)
  (h:wpListIn F n0 P ops Q rest (a.put o.dst undef) (w.setRow g (an n f))):wpListIn F n0 P ops Q (o :: rest) a w :=
 wpListIn_plain hgd fun K hK=>by
  have hrun:(execOp a.eval o).run P w=.ok .skip (w.setRow g (an n f)):=by unfold execOp;simp only[ho,hx,hy,Instr.storeAt,Instr.sureAddr,Sem.run_bind,Sem.run_pure,Result.andThen_ok,run_storeVar_row w g t ty (an n h0) (an n f) hr.heap (by rw[kV];exact hi) (by rw[kV,kV]) (aBI n f)]
  unfold Oper.wpIn;rw[Oper.semAt_eq _ _ _ (by intro c;rw[ho];exact Op.noConfusion),hrun,Oper.uponIn_skip];exact⟨fun f hf=>(by unfold Oper.about at hf;rw[ho] at hf;cases hf),hK _ _ h⟩
theorem yZ (g:Nat) (W:World):W.grownBy W (some g):=⟨rfl,rfl,rfl,Nat.le_refl _,fun _ _ _=>rfl⟩
theorem qX (h:A.grownBy B (some g)) (k:B.grownBy C (some g)):A.grownBy C (some g) :=
 ⟨k.os.trans h.os,k.tape.trans h.tape,k.output.trans h.output,Nat.le_trans h.size k.size,fun i hi hg=>(k.block i (Nat.lt_of_lt_of_le hi h.size) hg).trans (h.block i hi hg)⟩
theorem qJ (h:Below A.heap.size A B):A.grownBy B (some g):=⟨h.os,h.tape,h.output,h.size,fun i hi _=>h.block i hi⟩
theorem Qf (h:A.grownBy B (some g)):A.grownBy B.drew (some g):=⟨h.os,h.tape,h.output,h.size,h.block⟩
theorem jZ (h:A.grownBy B (some g)) (i:Nat) (v:Value):A.grownBy (B.setCell ⟨g,i,none⟩ v) (some g) :=
 qX h ⟨rfl,rfl,rfl,by simp[World.setCell],fun k _ hk=>Below.heap_setCell _ _ _ _ (by intro e;exact hk (by rw[show k=g from e]))⟩
theorem Cp (h:A.grownBy B (some g)) (cs:Array Value):A.grownBy (B.setRow g cs) (some g) :=
 qX h ⟨rfl,rfl,rfl,by simp,fun k _ hk=>setRow_other _ _ _ _ (by intro e;exact hk (by rw[e]))⟩
theorem qY (h:A.grownBy B (some g)) (hk:k<A.heap.size) (hne:k≠g):B.heap[k]?=A.heap[k]?:=h.block k hk (by intro e;injection e with e;exact hne e)
theorem Ay (h:A.grownBy B (some g)) {p:Addr} (hk:p.block<A.heap.size) (hne:p.block≠g):B.cell? p=A.cell? p:=World.cell?_of_block (qY h hk hne)
def HshI (q n:Nat) (P:Nat->Int) (g:Nat) (W0:World) {m:Nat} (pre:List (Fin m)) (W:World):Prop :=
 (∃ G:Nat->Int,ArrI W g 67 8 G/\(∀ j,j<8->0<=G j/\G j<q)/\∀ k,Bt pre k->∀ j,j<8->G j=hst q n P k j)/\W0.grownBy W (some g)
theorem HshI.own{n:Nat}{P:Nat->Int}{W0:World} (hg:g<W0.heap.size):OwnFrom W0.heap.size (fun (pre:List (Fin m)) W=>HshI q n P g W0 pre W):=by
 rintro s A B row ⟨⟨G,h1,h2,h3⟩,h4⟩ hgr hrow;have hne:∀ k,k<W0.heap.size->some k≠row:=fun k hk e=>by have:=(hrow k e.symm).1;omega
 refine⟨⟨G,h1.block (hgr.block g h1.lt (hne g hg)),h2,h3⟩,hgr.os.trans h4.os,hgr.tape.trans h4.tape,hgr.output.trans h4.output,Nat.le_trans h4.size hgr.size,fun k hk hkg=>?_⟩;exact (hgr.block k (Nat.lt_of_lt_of_le hk h4.size) (hne k hk)).trans (h4.block k hk hkg)
theorem Ta{s P:Nat->Int} (h3:3<=q) (h:0<=s j/\s j<q):0<=Ci q s P t j/\Ci q s P t j<q:=by
 unfold Ci;split
 ·exact qQ _ q h3
 ·exact h
theorem Wv{s s' P:Nat->Int} (h:s j=s' j):Ci q s P t j=Ci q s' P t j:=by unfold Ci;rw[h]
theorem Oi (q n d b s len cap:Nat) (a:Option Addr) (f:Nat->Int) (w:World) (ok:SpgOk q n d) (hs:SpgAt w s b q n d) (hlen:len<=17592186044400) (hfit:Zd len f) (hrow:aBB (·<w.heap.size) w a len f) :
  Calls Tryz.prog 67 #[.pointer (some ⟨s,0,none⟩),.slice a len cap] w fun e w' =>
   e=.returned (.slice (some ⟨w.heap.size+1,0,none⟩) 4 4)/\ArrI w' (w.heap.size+1) 67 8 (hst q n (pdf q f len) (len / 4+1))/\Below w.heap.size w w':=by
 have h3:3<=q:=by have:=ok.h23;omega
 have hm:=ok.hm;have HOK:=hid ok;have HS:=hid hs;have HF:=hid hfit;have HR:=hid hrow;have hsl:=hs.lt;have hbl:=hs.ltb;clear hs hfit hrow ok;obtain⟨m,hmm⟩:∃ m,len / 4+1=m:=⟨_,rfl⟩
 obtain⟨L,hL⟩:∃ L,pln len=L:=⟨_,rfl⟩
 obtain⟨P,hP⟩:∃ P,pdf q f len=P:=⟨_,rfl⟩
 have HLM:Hid (L=4*m):=by unfold Hid;rw[<- hL,<- hmm];rfl
 have HPB:Hid (∀ j,0<=P j/\P j<q):=fun j=>by rw[<- hP];exact We q f len j h3
 have hmb:m<=17592186044400:=by omega
 rw[hmm,hP];have HLE:=hid hL;have HPE:=hid hP;clear hmm hL hP;have HB1:Hid (Below w.heap.size w ((w.alloc (.cells #[.pointer (some ⟨s,0,none⟩)] 27)).alloc (.cells (an 8 (fun _=>0)) 67))):=((Below.refl _ _).alloc (Nat.le_refl _) _).alloc (by simp) _;have HA1:Hid (ArrI ((w.alloc (.cells #[.pointer (some ⟨s,0,none⟩)] 27)).alloc (.cells (an 8 (fun _=>0)) 67)) (w.heap.size+1) 67 8 (fun _=>0)):=ArrI.new2 w _ 8 67 (fun _=>0)
 have hx1:((w.alloc (.cells #[.pointer (some ⟨s,0,none⟩)] 27)).alloc (.cells (an 8 (fun _=>0)) 67)).cell? ⟨w.heap.size,0,none⟩=some (.pointer (some ⟨s,0,none⟩)):=by rw[World.cell?_alloc_lt _ _ ⟨w.heap.size,0,none⟩ (by simp),World.cell?_alloc_at _ _ _ _ rfl];rfl
 have hsz1:((w.alloc (.cells #[.pointer (some ⟨s,0,none⟩)] 27)).alloc (.cells (an 8 (fun _=>0)) 67)).heap.size=w.heap.size+2:=by simp
 refine (callsIn_wide (n:=8)).1 ?_;refine callsIn_of_wp_marks Tryz.func67 rfl trivial ?_ rfl;simp only[Tryz.ntmps67,List.size_toArray,List.length_cons,List.length_nil,Nat.reduceAdd,Nat.reduceSub,Array.replicate_succ,Array.replicate_zero,List.push_toArray,List.append_toArray,List.nil_append,List.cons_append];have hmx:Tryz.prog.follows .mixedOrders=true:=by kernel_rfl
 gi_wp2_with fail
 rw[show #[Value.int .i64 0,Value.int .i64 0,Value.int .i64 0,Value.int .i64 0,Value.int .i64 0,Value.int .i64 0,Value.int .i64 0,Value.int .i64 0]=an 8 (fun _=>0) from rfl];generalize (w.alloc (.cells #[.pointer (some ⟨s,0,none⟩)] 27)).alloc (.cells (an 8 (fun _=>0)) 67)=W1 at *;have HAT1:=hid (HS.out.keep HB1.out);have HX1:=hid hx1;have HSZ1:=hid hsz1
 have HR1:Hid (aBB (·<W1.heap.size) W1 a len f):=fun k hk=>by obtain⟨b',o',e1,e2,e3⟩:=HR.out k hk;exact⟨b',o',e1,Nat.lt_of_lt_of_le e2 HB1.out.size,(HB1.out.cell (p:=⟨b',o'+k,none⟩) e2).trans e3⟩
 clear hx1 hsz1 HS HR;refine⟨trivial,(callsIn_wide.2 (aBS q n d b s len cap a f W1 h3 hm HAT1.out hlen HF.out HR1.out)).mono ?_⟩;rintro e w2 ⟨rfl,hA2,hb2⟩;rw[HLE.out] at hA2;rw[HLE.out];rw[HPE.out] at hA2;rw[HSZ1.out] at hA2;rw[HSZ1.out];have HPD:=hid hA2;have HA2:=hid (HA1.out.below hb2 HA1.out.lt);have HAT2:=hid (HAT1.out.keep hb2);have HX2:=hid ((hb2.cell (p:=⟨w.heap.size,0,none⟩) (by rw[HSZ1.out];show w.heap.size<_;omega)).trans HX1.out);have HB2:Hid (Below w.heap.size w w2):=HB1.out.trans (hb2.mono HB1.out.size);have hs2:w.heap.size+2<w2.heap.size:=hA2.lt;clear hA2 hb2 HA1 HAT1 HX1 HB1 HR1 HF hlen HLE HPE
 gi_wp2_with fail
 refine⟨trivial,(aCt Fence.wide _ trivial rfl _ _ _ _).mono ?_⟩;rintro e w3 ⟨rfl,rfl⟩
 gi_wp2_with fail
 obtain⟨Bs,hBs⟩:=exE (w2.heap.size);rw[<- hBs];have HBX:Hid (Below w2.heap.size w2 ((w2.alloc (.cells #[.slice (some ⟨w.heap.size+2,0,none⟩) L L] 25)).alloc (.cells #[.int .i64 4] 3))):=((Below.refl _ _).alloc (Nat.le_refl _) _).alloc (by simp) _
 have HC1:Hid (((w2.alloc (.cells #[.slice (some ⟨w.heap.size+2,0,none⟩) L L] 25)).alloc (.cells #[.int .i64 4] 3)).cell? ⟨Bs,0,none⟩=some (.slice (some ⟨w.heap.size+2,0,none⟩) L L)):=by unfold Hid;rw[World.cell?_alloc_lt _ _ ⟨Bs,0,none⟩ (by simp;omega),World.cell?_alloc_at _ _ _ _ (by show Bs=_;omega)];rfl
 have HC2:Hid (((w2.alloc (.cells #[.slice (some ⟨w.heap.size+2,0,none⟩) L L] 25)).alloc (.cells #[.int .i64 4] 3)).cell? ⟨Bs+1,0,none⟩=some (.int .i64 4)):=by unfold Hid;rw[World.cell?_alloc_at _ _ _ _ (by simp;omega)];rfl
 have HZ0:Hid (((w2.alloc (.cells #[.slice (some ⟨w.heap.size+2,0,none⟩) L L] 25)).alloc (.cells #[.int .i64 4] 3)).heap.size=Bs+2):=by unfold Hid;simp;omega
 have HPD0:=hid (HPD.out.below HBX.out HPD.out.lt);have HA0:=hid (HA2.out.below HBX.out HA2.out.lt);have HAT0:=hid (HAT2.out.keep HBX.out);have HX0:=hid ((HBX.out.cell (p:=⟨w.heap.size,0,none⟩) (by show w.heap.size<_;omega)).trans HX2.out);have HB0:Hid (Below w.heap.size w ((w2.alloc (.cells #[.slice (some ⟨w.heap.size+2,0,none⟩) L L] 25)).alloc (.cells #[.int .i64 4] 3))):=HB2.out.trans (HBX.out.mono HB2.out.size);clear HPD HA2 HAT2 HX2 HB2 HBX;generalize (w2.alloc (.cells #[.slice (some ⟨w.heap.size+2,0,none⟩) L L] 25)).alloc (.cells #[.int .i64 4] 3)=W0 at *;have hBl:w.heap.size+2<Bs:=by omega
 clear hBs hs2;have hg0:w.heap.size+1<W0.heap.size:=by rw[HZ0.out];omega
 have HF0:Hid (∀ wr:World,W0.grownBy wr (some (w.heap.size+1))->SpgAt wr s b q n d/\wr.cell? ⟨w.heap.size,0,none⟩=some (.pointer (some ⟨s,0,none⟩))/\ArrI wr (w.heap.size+2) 3 L P):=fun wr h =>
  ⟨HAT0.out.blocks (qY h (by rw[HZ0.out];omega) (by omega)) (qY h (by rw[HZ0.out];omega) (by omega)),(Ay h (p:=⟨w.heap.size,0,none⟩) (by show w.heap.size<_;rw[HZ0.out];omega) (by show w.heap.size≠_;omega)).trans HX0.out,HPD0.out.block (qY h (by rw[HZ0.out];omega) (by omega))⟩
 refine wpIn_rangeFunc_ownG rfl (by omega) (gf:=153) (lb:=#[.pointer (some ⟨Bs,0,none⟩),.pointer (some ⟨Bs+1,0,none⟩)]) rfl trivial (xZ Tryz.func153 (by kernel_rfl) (by kernel_rfl))
  (Sz Fence.wide 7 trivial rfl (by omega) Bs (w.heap.size+2) L m HLM.out (by omega) W0 HC1.out HC2.out (by rw[HZ0.out];omega))
  (fun h k=>h.trans k)
  (fun W l q q' hl h h1 h2=>⟨World.cell?_of_block (World.putObj_heap_other (by rw[HZ0.out] at hl;show Bs≠l;omega)),World.cell?_of_block (World.putObj_heap_other (by rw[HZ0.out] at hl;show Bs+1≠l;omega))⟩)
  (Below.refl _ _) (fun _=>rfl)
  (fun pre W=>HshI q n P (w.heap.size+1) W0 pre W)
  (fun _ _ _=>False)
  (HshI.own hg0)
  (fun _ _ _ _ _ hs _ _=>hs)
  ⟨⟨fun _=>0,HA0.out,fun j _=>by show (0:Int)<=0/\(0:Int)<(q:Int);omega,fun k hk j _=>by
   have:=Ax hk;simp at this;subst this
   rfl⟩,yZ _ _⟩
  (fun x=>{ tmps:=#[.pointer (some ⟨s,0,none⟩),.slice a len cap,.pointer (some ⟨w.heap.size,0,none⟩),undef,.slice none 0 0,.pointer (some ⟨w.heap.size+1,0,none⟩),.slice (some ⟨w.heap.size+2,4*x.val,none⟩) 4 4,undef,undef,.pointer (some ⟨s,0,none⟩),.slice a len cap,.slice (some ⟨w.heap.size+2,0,none⟩) L L,.func (.func 153) #[] #[.pointer (some ⟨Bs,0,none⟩),.pointer (some ⟨Bs+1,0,none⟩)],.slice (some ⟨w.heap.size+2,4*x.val,none⟩) 4 4,undef,undef,undef,undef,undef,undef,undef,undef,undef,undef,undef,undef,undef,undef,undef,undef,undef,undef,undef,undef,undef,undef,undef],defers:=[] })
  ?assign ?body ?done ?stop
 case assign =>
  intro l x W K hK
  gi_wp2
  exact hK
 case body =>
  rintro l pre x W ⟨⟨G,hG,hGb,hGc⟩,hgb⟩ hpl2;have hxl:=x.isLt;have HG:=hid hG;have HGB:=hid hGb;have HGC:=hid hGc;have HGR:=hid hgb;clear hG hGb hGc hgb;obtain⟨t,ht⟩:∃ t:Nat,x.val=t:=⟨_,rfl⟩
  have HT:=hid ht;rw[ht];rw[ht] at hxl;clear ht;have hL4:4*t+4<=L:=by have:=HLM.out;omega
  gi_wp2
  gi_loopw [16] (fun iv wr=>∃ k:Nat,k<=4/\iv=.int .i64 k/\Hid (ArrI wr (w.heap.size+1) 67 8 (fll (Ci q G P t) G k))/\Hid (W.grownBy wr (some (w.heap.size+1))))
   (fun iv _=>4-(intOf iv).toNat)
  case atStart=>exact⟨0,by omega,rfl,by rw[jJ];exact HG.out,yZ _ _⟩
  case round =>
   obtain⟨k,hk,rfl,hA,hgr⟩:=hrel;have HW:=hid (HF0.out wr (qX HGR.out hgr.out));by_cases hlt:k<4
   ·have hlt2:(k:Int)<4:=by omega
    have hlt8:(k:Int)<8:=by omega
    have hks:IntKind.i64.wrap ((k:Int)+1)=(k:Int)+1:=by rw[IntKind.wrap_i64];omega
    have hpx:=HW.out.2.2.cell (i:=4*t+k) (by omega);have hbx:=HW.out.2.1;have hsf:=HW.out.1.f;have c1:=hA.out.cell (i:=k) (by omega);have y1:=hA.out.frozen k;rw[Wf] at c1;have hpb:=HPB.out (4*t+k);have hgb2:=HGB.out k (by omega);have HSK:Hid ((G k+P (4*t+k)) % (q:Int)=Ci q G P t k):=by unfold Hid Ci;rw[if_pos hlt]
    have HE:Hid (ArrI (wr.setCell ⟨w.heap.size+1,k,none⟩ (.int .i64 (Ci q G P t k))).drew (w.heap.size+1) 67 8 (fll (Ci q G P t) G (k+1))/\W.grownBy (wr.setCell ⟨w.heap.size+1,k,none⟩ (.int .i64 (Ci q G P t k))).drew (some (w.heap.size+1))) :=
     ⟨hA.out.next,Qf (jZ hgr.out k _)⟩
    have HMx:=hid (yV q b (G k) (P (4*t+k)) wr.drew h3 hm HW.out.1.p (by omega) (by omega) (by omega) (by omega));rw[HSK.out] at HMx;clear hpb hgb2 hA hgr HSK HW;generalize Ci q G P t k=x1 at *;generalize G k=y at *;generalize P (4*t+k)=z at *
    gi_wp2
    have hne1:∀ u,(wr.setCell ⟨w.heap.size+1,k,none⟩ u).cell? ⟨w.heap.size,0,none⟩=some (.pointer (some ⟨s,0,none⟩)):=fun u=>(World.cell?_setCell_other _ _ _ _ (by intro e;injection e with h1 _ _;omega)).trans hbx;have hne2:∀ u,(wr.setCell ⟨w.heap.size+1,k,none⟩ u).cell? ⟨s,0,none⟩=some (.pointer (some ⟨b,0,none⟩)):=fun u=>(World.cell?_setCell_other _ _ _ _ (by intro e;injection e with h1 _ _;omega)).trans hsf;have HN:=hid (And.intro hne1 hne2);clear hne1 hne2;have hS0:wr.drew.cell? ⟨w.heap.size,0,none⟩=some (.pointer (some ⟨s,0,none⟩))/\wr.drew.cell? ⟨s,0,none⟩=some (.pointer (some ⟨b,0,none⟩)):=⟨hbx,hsf⟩
    refine Ew (S:=fun W=>W.cell? ⟨w.heap.size,0,none⟩=some (.pointer (some ⟨s,0,none⟩))/\W.cell? ⟨s,0,none⟩=some (.pointer (some ⟨b,0,none⟩))) hmx ?_;show Bi _ _ _ _ _ _ _ 12 (Array.replicate 12 false) _ _;refine kU (i:=0) (v:=.int .i64 (k:Int)) (kX (by kernel_rfl)) rfl (by kernel_rfl) (by kernel_rfl) (by kernel_rfl) (fun _ _ _ h=>h) ⟨Or.inl ⟨by rfl,fun W hS=>?_⟩,fun W=>?_⟩ hS0 ?_
    ·obtain⟨s1,s2⟩:=hS;go_simp
    ·first | rfl | go_simp
    refine kU (i:=5) (v:=.int .i64 (k:Int)) (kX (by kernel_rfl)) rfl (by kernel_rfl) (by kernel_rfl) (by kernel_rfl) (fun _ _ _ h=>h) ⟨Or.inl ⟨by rfl,fun W hS=>?_⟩,fun W=>?_⟩ hS0 ?_
    ·obtain⟨s1,s2⟩:=hS;go_simp
    ·first | rfl | go_simp
    refine kU (i:=8) (v:=.int .i64 z) (kX (by kernel_rfl)) rfl (by kernel_rfl) (by kernel_rfl) (by kernel_rfl) (fun _ _ _ h=>h) ⟨Or.inl ⟨by rfl,fun W hS=>?_⟩,fun W=>?_⟩ hS0 ?_
    ·obtain⟨s1,s2⟩:=hS;go_simp
    ·first | rfl | go_simp
    refine kU (i:=1) (v:=.pointer (some ⟨s,0,none⟩)) (kX (by kernel_rfl)) rfl (by kernel_rfl) (by kernel_rfl) (by kernel_rfl) (fun _ _ _ h=>h) ⟨Or.inl ⟨by rfl,fun W hS=>?_⟩,fun W=>?_⟩ hS0 ?_
    ·obtain⟨s1,s2⟩:=hS;go_simp
    ·first | rfl | go_simp
    refine kU (i:=2) (v:=.pointer (some ⟨s,0,none⟩)) (kX (by kernel_rfl)) rfl (by kernel_rfl) (by kernel_rfl) (by kernel_rfl) (fun _ _ _ h=>h) ⟨Or.inl ⟨by rfl,fun W hS=>?_⟩,fun W=>?_⟩ hS0 ?_
    ·obtain⟨s1,s2⟩:=hS;go_simp
    ·first | rfl | go_simp
    refine kU (i:=3) (v:=.pointer (some ⟨s,0,none⟩)) (kX (by kernel_rfl)) rfl (by kernel_rfl) (by kernel_rfl) (by kernel_rfl) (fun _ _ _ h=>h) ⟨Or.inl ⟨by rfl,fun W hS=>?_⟩,fun W=>?_⟩ hS0 ?_
    ·obtain⟨s1,s2⟩:=hS;go_simp
    ·first | rfl | go_simp
    refine kU (i:=4) (v:=.pointer (some ⟨b,0,none⟩)) (kX (by kernel_rfl)) rfl (by kernel_rfl) (by kernel_rfl) (by kernel_rfl) (fun _ _ _ h=>h) ⟨Or.inl ⟨by rfl,fun W hS=>?_⟩,fun W=>?_⟩ hS0 ?_
    ·obtain⟨s1,s2⟩:=hS;go_simp
    ·first | rfl | go_simp
    refine kU (i:=6) (v:=.pointer (some ⟨w.heap.size+1,k,none⟩)) (kX (by kernel_rfl)) rfl (by kernel_rfl) (by kernel_rfl) (by kernel_rfl) (fun _ _ _ h=>h) ⟨Or.inl ⟨by rfl,fun W hS=>?_⟩,fun W=>?_⟩ hS0 ?_
    ·obtain⟨s1,s2⟩:=hS;go_simp
    ·first | rfl | go_simp
    refine xY (i:=7) (by kernel_rfl) ?_;refine YieldsR.step (S:=fun W=>W.cell? ⟨w.heap.size+1,k,none⟩=some (.int .i64 y)) (v:=.int .i64 y) (kX (by kernel_rfl)) rfl ⟨Or.inl ⟨by rfl,fun W hS=>?_⟩,fun W=>?_⟩ c1 ⟨hS0,?_⟩
    ·go_simp
    ·first | rfl | go_simp
    refine xY (i:=9) (by kernel_rfl) ?_;refine wpOpIn_step rfl (fun K' hK'=>?_);rw[if_pos (by rfl)];go_simp;refine⟨trivial,(CallsIn.inRound l (callsIn_wide.2 HMx.out)).mono ?_⟩;rintro e w6 ⟨rfl,rfl⟩;refine hK' _ _ ⟨hS0,?_⟩;clear hK' K';refine xY (i:=10) (by kernel_rfl) ?_;refine YieldsR.step (S:=fun _=>True) (v:=.pointer (some ⟨w.heap.size+1,k,none⟩)) (kX (by kernel_rfl)) rfl ⟨Or.inl ⟨by rfl,fun W hS=>?_⟩,fun W=>?_⟩ trivial ⟨hS0,?_⟩
    ·go_simp
    ·first | rfl | go_simp
    refine xY (i:=11) (by kernel_rfl) ?_;refine wpOpIn_step rfl (fun K' hK'=>?_);rw[if_pos (by rfl)];go_simp;refine hK' _ _ ⟨⟨HN.out.1 _,HN.out.2 _⟩,It (by kernel_rfl) ?_ _⟩;clear hK' K'
    gi_wp2_with fail
    go_roundw
    case rel=>exact⟨k+1,by omega,by go_num,HE.out.1,HE.out.2⟩
    case measure=>simp[intOf];omega
   ·obtain rfl:k=4:=by omega
    have HA4:Hid (ArrI wr (w.heap.size+1) 67 8 (Ci q G P t)):=hA.out.congr (fun j hj=>by
     unfold fll;by_cases h:j<4
     ·rw[if_pos h]
     ·rw[if_neg h];unfold Ci;rw[if_neg h])
    have hbx:=HW.out.2.1;have hltA:=HA4.out.lt;have HGW:=hid hgr.out;have HSW:=hid HW.out.1;have HSB:Hid (∀ j,j<8->0<=Ci q G P t j/\Ci q G P t j<q):=fun j hj=>Ta h3 (HGB.out j hj);clear hA hgr HW
    gi_wp2_with (refine If rfl 67 _ rfl _ rfl _ _ _ _ _ HA4.out Tryz.underlying67 (by kernel_rfl) ?_)
    refine⟨trivial,(CallsIn.inRound l (callsIn_wide.2 (Px q n d b s (Ci q G P t) wr HOK.out HSW.out HSB.out))).mono ?_⟩;rintro e w6 ⟨rfl,hb6⟩;have HA6:=hid (HA4.out.below hb6 hltA);have HG6:Hid (W.grownBy w6 (some (w.heap.size+1))):=qX HGW.out (qJ hb6);clear hb6 HA4 HGW HSW
    gi_wp2_with (refine Gh rfl 67 _ _ rfl _ _ _ _ rfl rfl _ HA6.out (by kernel_rfl) ?_)
    refine⟨KeepsFrom.of_grownBy (Cp HG6.out _) (fun j e=>by cases e;exact hg0),⟨Ay (Cp HG6.out _) (p:=⟨Bs,0,none⟩) (by have:=HGR.out.size;rw[HZ0.out] at this;show Bs<_;omega) (by show Bs≠_;omega),Ay (Cp HG6.out _) (p:=⟨Bs+1,0,none⟩) (by have:=HGR.out.size;rw[HZ0.out] at this;show Bs+1<_;omega) (by show Bs+1≠_;omega)⟩,
     ⟨Dq q n (Ci q G P t) 8,HA6.out.setRow _,fun j _=>Dr q n _ 8 j h3,fun k hk j hj=>?_⟩,qX HGR.out (Cp HG6.out _)⟩
    obtain⟨k',rfl⟩:∃ k',k=k'+1:=by
     cases k with
     | zero=>have:=Ax hk;simp at this
     | succ k'=>exact⟨k',rfl⟩
    obtain⟨hc1,hc2⟩:=aAJ hk;obtain rfl:t=k':=by rw[<- HT.out,hc2]
    show _=Dq q n (Ci q (hst q n P t) P t) 8 j;exact Kz (by omega) (fun i hi=>by rw[Wv (HGC.out t hc1 i hi)]) 8 j hj
 case done =>
  rintro D ys W hD hys ⟨⟨G,hG,hGb,hGc⟩,hgb⟩ hK;have HG:Hid (ArrI W (w.heap.size+1) 67 8 (hst q n P m)):=hG.congr (fun j hj=>hGc m hys j hj);have HGR:=hid hgb;clear hG hGb hGc hgb hys
  gi_wp2
  refine⟨by simp,.inl ⟨_,_,rfl,run_takeDeferred hK,?_⟩⟩;have hne:w.heap.size+1≠D:=by omega
  refine⟨_,results_tmp rfl _ _ _,rfl,HG.out.block (World.putObj_heap_other hne),?_⟩;have hb1:Below w.heap.size w W:=HB0.out.trans ⟨HGR.out.os,HGR.out.tape,HGR.out.output,HGR.out.size,fun k hk=>qY HGR.out (by rw[HZ0.out];omega) (by omega)⟩;exact hb1.trans (belowK_b (w:=w) (Nat.le_refl _) W D _ _ (by rw[HZ0.out] at hD;omega) hK rfl rfl)
 case stop =>
  rintro D c pre W _ _ h _;exact h.elim
end Go.Proofs.YtkdndfbfmchcpaaGreatDoor
