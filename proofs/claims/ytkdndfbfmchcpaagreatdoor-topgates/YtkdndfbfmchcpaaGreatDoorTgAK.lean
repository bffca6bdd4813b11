
import Derived.Test.YtkdndfbfmchcpaaGreatDoorTgAJ
import Derived.Lib.AppendZerosOnto
import Derived.Laws.CopyRow
set_option maxRecDepth 1000000
set_option maxHeartbeats 8000000
namespace Go.Proofs.YtkdndfbfmchcpaaGreatDoor
variable {D y:List Int}{N0 c ca cb g n n0 q:Nat}{W w w':World}{a b d x:Value}{rows:List (List Int)}
open Go.RowKit
def drw (q n:Nat):Nat->List Int->List Int
 | 0,D=>D
 | k+1,D=>digl q n (4 :: drw q n k D)
def drs (q n k:Nat) (D:List Int):List Int:=ls (fun i=>zat (drw q n (i+1) D) 0) k
def Dig (D:List Int):Prop:=D.length=4/\Fits D
theorem zY (h3:3<=q) (h4:q<=2147483647) (n:Nat) (l:List Int):Dig (digl q n l):=⟨yK _ _ _,Ic h3 h4 _ _⟩
theorem Qo (h3:3<=q) (h4:q<=2147483647) (n:Nat) {D:List Int} (h:Dig D):∀ k,Dig (drw q n k D)
 | 0=>h
 | _+1=>zY h3 h4 _ _
theorem NumL.other{a:Option Addr}{s:Nat}{l:List Int} (h:NumL w a c l) (e:w.grownBy w' (some s)) (hs:∀ (cs:Array Value) (f:Nat × Nat),w.heap[s]?≠some (.cells cs 3 f)):NumL w' a c l :=
 h.blocks e.size (fun g cs f hg=>qY e (Array.getElem?_eq_some_iff.1 hg).1 (fun he=>hs cs f (by rw[<- he];exact hg)))
theorem Gv{base:Nat}{v:Value}{zs:List Int} (h:w.ownsRow base 3 1 v zs.length (zs.map (Value.int .i64))):∃ a cap,v=.slice a zs.length cap/\NumL w a cap zs:=by
 obtain⟨a,cap,rfl,hl⟩:=kY h;refine⟨a,cap,rfl,hl,fun h0=>?_⟩;rcases h.2 with ⟨_,h3⟩ | ⟨g,cap',cur,e,hg,hb,_⟩
 ·omega
 ·injection e with e1
  exact⟨g,0,cur,_,e1,hb⟩
theorem Ii{k:Nat} (h:k<rows.length):(rows.take (k+1)).flatten=(rows.take k).flatten++rat rows k:=by
 have e:rows.take (k+1)=rows.take k++[rat rows k]:=by rw[List.take_add_one,List.getElem?_eq_getElem h];unfold rat;rw[List.getD_eq_getElem?_getD,List.getElem?_eq_getElem h];rfl
 rw[e,List.flatten_append];simp
theorem Zs (k:Nat):(rows.take k).flatten.length<=rows.flatten.length:=by
 have:=congrArg (fun l=>(List.flatten l).length) (List.take_append_drop k rows);simp only[List.flatten_append,List.length_append] at this;omega
theorem aGd{α β:Type}{A B:α->β->Prop}{C:α->β->Prop} (h:∀ x y,Hid (A x y)->B x y->C x y):∀ x y,A x y->B x y->C x y:=fun x y a b=>h x y a b
theorem Gw{ops:Array Oper}{rest:List Oper}{o:Oper}{a:Act}{w2:World}{Q:Exit->Act->World->Prop} (hgd:o.guard=none) (s x:Operand) (tS tX:TypeId)
  (ho:o.op=.call { callee:=.builtin .append,args:=#[s,x],argTypes:=#[tS,tX] }) (v u r:Value) (hs:a.eval s=v) (hx:a.eval x=u) (hrun:∀ ty,(Builtin.append_ #[tS,tX] ty #[v,u]).run Tryz.prog w=.ok r w2)
  (h:wpList Tryz.prog ops Q rest (a.put o.dst r) w2):wpList Tryz.prog ops Q (o :: rest) a w:=by
 refine wpList_plain hgd fun K hK=>?_;unfold Oper.wp;simp[execOp,ho,resolve,invoke,builtin,hs,hx,hrun,Result.andThen];exact hK _ _ h
theorem aCD (k:Nat) (w:World) (h1:1<=k) (h2:k<=17592186044416) :
  Calls Tryz.prog 116 #[.slice none 0 0,.int .i64 (k:Int)] w fun e w'=>∃ v,e=.returned v/\w'.ownsRow w.heap.size 3 1 v 0 []/\Below w.heap.size w w':=by
 obtain⟨i0,hi,hz0,hz1,hz2⟩:=info_parts Tryz.infoInt;have hold:(Builtin.firstCells i0.size 0 (.slice none 0 0)).run Tryz.prog w.drew=.ok ([]:List Value).toArray w.drew:=run_firstCells_none w.drew i0.size 0 0 0
 have HR:∃ G W1,Hid (∀ ty,(Builtin.append_ #[25,3] ty #[.slice none 0 0,.int .i64 (k:Int)]).run Tryz.prog w=.ok (.slice (some ⟨w.heap.size,0,none⟩) k G) W1)/\k<=G/\G<=9223372036854775807/\Hid (W1.ownsRow w.heap.size 3 1 (.slice (some ⟨w.heap.size,0,none⟩) 0 G) 0 []/\Below w.heap.size w W1):=by
  have hG:=grownCap_ge w (0+k) 0 3;have hGm:=grownCap_le_maxLen w (0+k) 0 3 (by unfold maxLen;omega);have h:=fun ty=>Lib.run_append_grow_zeros w 25 3 ty 3 i0 (.int .i64 0) .i64 .i64 Tryz.underlying25 (by kernel_rfl) hi hz0 none 0 0 [] hold k (by omega) (by omega) (by omega) (by omega) (by rw[hz2];omega) (growslice_fits (by omega) (by rw[hz2];omega));rw[Nat.zero_add] at h hG hGm;generalize grownCap w k 0 3=G at *;refine⟨G,_,h,hG,by unfold maxLen at hGm;exact hGm,?_,?_⟩
  ·refine World.ownsRow_made (size:=1) w.drew _ _ (Nat.le_refl _) hGm ?_;have hzc:(Value.int .i64 0).cells.size=1:=rfl;simp only[Array.size_append,size_zeroCells,hzc];simp;omega
  ·exact (Below.refl _ _).drew.alloc (Nat.le_refl _) _
 obtain⟨G,W1,HRZ,hG1,hG2,HE⟩:=HR;have t1:¬ (k:Int)<0:=by omega
 have t2:(k:Int) > 0:=by omega
 have hw0:IntKind.i64.wrap (k:Int)=(k:Int):=by rw[IntKind.wrap_i64];omega
 clear hold hi hz0 hz1 hz2;go_enter Tryz.func116,Tryz.ntmps116;go_wp2_with (at_builtin;refine Gw rfl _ _ 25 3 rfl _ _ _ rfl rfl HRZ.out ?_);go_ret;exact⟨_,rfl,HE.out⟩
theorem Ly (cap:Nat) (a:Option Addr) (rows:List (List Int)) (w:World) (h1:1<=rows.flatten.length) (hlen:rows.flatten.length<=17592186044300) (hrl:rows.length<=17592186044300) (hl:LstR w.heap.size w a cap rows) :
  Calls Tryz.prog 68 #[.slice a rows.length cap] w fun e w'=>∃ v,e=.returned v/\w'.ownsRow w.heap.size 3 1 v rows.flatten.length (rows.flatten.map (Value.int .i64))/\Below w.heap.size w w':=by
 have HL:=hid hl;have HFL:=hid hlen;have HF1:=hid h1;clear hl hlen h1;obtain⟨m,hm⟩:=exE (rows.length);rw[<- hm] at hrl ⊢;have HM:=hid hm;clear hm;obtain⟨S,hS⟩:∃ S:Nat->Nat,S=fun k=>(rows.take k).flatten.length:=⟨_,rfl⟩
 have HS:=hid hS;have hSm:Hid (S m=rows.flatten.length):=by unfold Hid;rw[hS,HM.out];show (rows.take rows.length).flatten.length=_;rw[List.take_length]
 have hS0:Hid (S 0=0):=by unfold Hid;rw[hS];simp
 have hSs:Hid (∀ k,k<m->S (k+1)=S k+(rat rows k).length/\S (k+1)<=17592186044300):=fun k hk=>by have e2:=Zs (rows:=rows) (k+1);have e3:=HFL.out;rw[hS];show (rows.take (k+1)).flatten.length=(rows.take k).flatten.length+_/\(rows.take (k+1)).flatten.length<=_;refine⟨?_,by omega⟩;rw[Ii (by rw[<- HM.out];exact hk),List.length_append]
 clear hS;go_enter Tryz.func68,Tryz.ntmps68;go_wp2_with fail
 go_loop [3,11] (fun sv iv=>∃ k:Nat,k<=m/\iv=.int .i64 k/\∃ x:Nat,sv=.int .i64 (x:Int)/\Hid (x=S k))
  (fun _ iv=>m-(intOf iv).toNat)
 case atStart=>exact⟨0,by omega,rfl,0,rfl,hS0.out.symm⟩
 case round =>
  obtain⟨k,hk,rfl,x,rfl,hx⟩:=hrel;by_cases hlt:k<m
  ·have hlt2:(k:Int)<(m:Int):=by omega
   have hks:IntKind.i64.wrap ((k:Int)+1)=(k:Int)+1:=by rw[IntKind.wrap_i64];omega
   obtain⟨bl,ol,ak,ck,rfl,hbl',hcl,hlk⟩:=HL.out.row k (by rw[<- HM.out];exact hlt);obtain⟨y,hy⟩:=exE ((rat rows k).length);have hs:=hSs.out k hlt;have hxe:=hx.out;have hxy:Hid (x+y=S (k+1)):=by unfold Hid;omega
   have hxy2:x+y<=17592186044300:=by omega
   rw[<- hy] at hcl;clear hs hy hxe hbl' hlk;have hw:IntKind.i64.wrap ((x:Int)+(y:Int))=(x:Int)+(y:Int):=by rw[IntKind.wrap_i64];omega
   have ht:¬ (x:Int)+(y:Int)<0:=by omega
   go_wp2_with fail
   go_round
   case rel=>exact⟨k+1,by omega,by go_num,x+y,by go_num,hxy⟩
   case measure=>simp[intOf];omega
  ·obtain rfl:k=m:=by omega
   have hx1:1<=x:=by have:=hx.out;have:=hSm.out;have:=HF1.out;omega
   have hx2:x<=17592186044416:=by have:=hx.out;have:=hSm.out;have:=HFL.out;omega
   have HG:=hid (aCD x w hx1 hx2);clear hx hSm hS0 hSs HS hx1 hx2;go_wp2_with fail;refine HG.out.mono ?_;rintro e w1 ⟨v0,rfl,hown0,hb0⟩;have HO:=hid hown0;have HBA:=hid hb0;clear hown0 hb0 HG;go_wp2_with fail
   go_loopw [6,27] (fun v iv wr=>∃ j:Nat,j<=k/\iv=.int .i64 j/\Hid (wr.ownsRow w.heap.size 3 1 v (rows.take j).flatten.length ((rows.take j).flatten.map (Value.int .i64))/\Below w.heap.size w wr))
    (fun _ iv _=>k-(intOf iv).toNat)
   case atStart=>exact⟨0,by omega,rfl,HO.out,HBA.out⟩
   case round =>
    obtain⟨j,hj,rfl,hC⟩:=hrel;by_cases hlt:j<k
    ·have hlt2:(j:Int)<(k:Int):=by omega
     have hks:IntKind.i64.wrap ((j:Int)+1)=(j:Int)+1:=by rw[IntKind.wrap_i64];omega
     obtain⟨bl,ol,ak,ck,rfl,hbl',hcl,hlk⟩:=HL.out.row j (by rw[<- HM.out];exact hlt);have hcl2:=(hC.out.2.cell (p:=⟨bl,ol+j,none⟩) hbl').trans hcl;have HLK:=hid (hlk.below hC.out.2)
     have HLE:Hid ((rows.take j).flatten.length+(rat rows j).length<=17592186044416):=by have e1:=Ii (rows:=rows) (k:=j) (by rw[<- HM.out];exact hlt);have e2:=Zs (rows:=rows) (j+1);have e3:=HFL.out;rw[e1,List.length_append] at e2;unfold Hid;omega
     have HSN:Hid ((rows.take (j+1)).flatten=(rows.take j).flatten++rat rows j):=Ii (by rw[<- HM.out];exact hlt);obtain⟨Z,hZ⟩:=exE ((rows.take j).flatten);obtain⟨Y,hY⟩:=exE (rat rows j);rw[<- hZ,<- hY] at HSN HLE;rw[<- hZ] at hC;rw[<- hY] at HLK hcl2;clear hcl hbl' hlk hZ hY;go_wp2_with (at_builtin;refine Av wr w.heap.size w.heap.size rfl _ _ rfl _ rfl _ _ hC.out.1 _ _ rfl HLE.out hC.out.2.size HLK.out ?_;refine aGd ?_);intro v' w2 HOW hb2
     have HE:Hid (w2.ownsRow w.heap.size 3 1 v' (rows.take (j+1)).flatten.length ((rows.take (j+1)).flatten.map (Value.int .i64))/\Below w.heap.size w w2):=by unfold Hid;rw[HSN.out,List.length_append,List.map_append];exact⟨HOW.out,hC.out.2.trans hb2⟩
     clear HOW hb2;go_wp2_with fail;go_roundw
     case rel=>exact⟨j+1,by omega,by go_num,HE⟩
     case measure=>simp[intOf];omega
    ·obtain rfl:j=k:=by omega
     have HT:Hid (rows.take j=rows):=by unfold Hid;rw[HM.out,List.take_length]
     have HE:=hC;rw[HT.out] at HE;clear hC;go_wp2_with fail;go_ret;exact⟨_,rfl,HE.out⟩
def PCh (N0 q n:Nat) (w:World) (c:Nat) (D:List Int):Prop:=∃ s b d,SpgOk q n d/\SpgAt w s b q n d/\s<N0/\b<N0/\N0<=c /\
 w.heap[c]?=some (.cells #[.pointer (some ⟨s,0,none⟩),.int .i64 (zat D 0),.int .i64 (zat D 1),.int .i64 (zat D 2),.int .i64 (zat D 3)] 94 (0,0))
theorem PCh.blocks (h:PCh N0 q n w c D) (hc:w'.heap[c]?=w.heap[c]?) (e:∀ b,b<N0->w'.heap[b]?=w.heap[b]?):PCh N0 q n w' c D:=by
 obtain⟨s,b,d,h1,h2,h3,h4,h5,h6⟩:=h;exact⟨s,b,d,h1,h2.blocks (e s h3) (e b h4),h3,h4,h5,hc.trans h6⟩
theorem PCh.lt (h:PCh N0 q n w c D):c<w.heap.size:=by
 obtain⟨s,b,d,_,_,_,_,_,h6⟩:=h;exact (Array.getElem?_eq_some_iff.1 h6).1
theorem PCh.ge (h:PCh N0 q n w c D):N0<=c:=by
 obtain⟨s,b,d,_,_,_,_,h5,_⟩:=h;exact h5
theorem PCh.below (h:PCh N0 q n w c D) (e:Below w.heap.size w w'):PCh N0 q n w' c D :=
 h.blocks (e.block c h.lt) (fun b hb=>e.block b (by have:=h.ge;have:=h.lt;omega))
theorem Om{c:Value}{t:TypeId} (h:W.heap[g]?=some (.cells #[a,b,c,d,x] t (0,0))):W.cell? ⟨g,0,none⟩=some a:=by simp[World.cell?,h]
theorem Tk{c:Value}{t:TypeId} (h:W.heap[g]?=some (.cells #[a,b,c,d,x] t (0,0))):W.cell? ⟨g,1,none⟩=some b:=by simp[World.cell?,h]
theorem Tl{c:Value}{t:TypeId} (h:W.heap[g]?=some (.cells #[a,b,c,d,x] t (0,0))):W.cell? ⟨g,2,none⟩=some c:=by simp[World.cell?,h]
theorem Zt{c:Value}{t:TypeId} (h:W.heap[g]?=some (.cells #[a,b,c,d,x] t (0,0))):W.cell? ⟨g,3,none⟩=some d:=by simp[World.cell?,h]
theorem Zu{c:Value}{t:TypeId} (h:W.heap[g]?=some (.cells #[a,b,c,d,x] t (0,0))):W.cell? ⟨g,4,none⟩=some x:=by simp[World.cell?,h]
theorem Tm{t:TypeId} (hD:D.length=4) (h:W.heap[g]?=some (.cells #[a,.int .i64 (zat D 0),.int .i64 (zat D 1),.int .i64 (zat D 2),.int .i64 (zat D 3)] t (0,0))):Lst W.heap.size W (some ⟨g,1,none⟩) 4 D:=by
 refine⟨fun k hk=>⟨g,1,rfl,(Array.getElem?_eq_some_iff.1 h).1,?_⟩,by omega,fun e=>by cases e⟩
 match k,(show k<4 by omega) with
 | 0,_=>exact Tk h
 | 1,_=>exact Tl h
 | 2,_=>exact Zt h
 | 3,_=>exact Zu h
theorem Ff (N0 q n c cap:Nat) (a:Option Addr) (rows:List (List Int)) (D:List Int) (w:World) (hP:PCh N0 q n w c D) (h1:1<=rows.flatten.length) (hlen:rows.flatten.length<=17592186044300) (hrl:rows.length<=17592186044300) (hfit:Fits rows.flatten) (hl:LstR w.heap.size w a cap rows) :
  Calls Tryz.prog 28 #[.pointer (some ⟨c,0,none⟩),.slice a rows.length cap] w fun e w'=>e=.returned (.tuple #[])/\PCh N0 q n w' c (digl q n rows.flatten)/\w.grownBy w' (some c):=by
 have hcl:=hP.lt;obtain⟨s,b,d,ok,hs,hsN,hbN,hcN,hblk⟩:=hP;have h3:3<=q:=by have:=ok.h23;omega
 have hm:=ok.hm;obtain⟨L,hL⟩:=exE (rows.flatten);rw[<- hL] at hfit hlen ⊢
 have HC:Hid (∀ W,Below w.heap.size w W->Calls Tryz.prog 68 #[.slice a rows.length cap] W fun e w'=>∃ v,e=.returned v/\Hid (w'.ownsRow W.heap.size 3 1 v L.length (L.map (Value.int .i64)))/\Below w.heap.size w w'):=fun W h=>by refine (Ly cap a rows W h1 (by rw[<- hL];exact hlen) hrl ((hl.below h).mono h.size)).mono ?_;rintro e w' ⟨v,rfl,h1,h2⟩;rw[<- hL] at h1;exact⟨v,rfl,h1,h.trans (h2.mono h.size)⟩
 have HH:Hid (∀ (W:World) (v:Value) (bs:Nat),Hid (W.ownsRow bs 3 1 v L.length (L.map (Value.int .i64)))->Below w.heap.size w W->Calls Tryz.prog 67 #[.pointer (some ⟨s,0,none⟩),v] W fun e w'=>∃ x:Nat,e=.returned (.slice (some ⟨x,0,none⟩) 4 4)/\Hid (RowB w'.heap.size w' (some ⟨x,0,none⟩) (digl q n L))/\Below w.heap.size w w'):=fun W v bs h0 h=>by obtain⟨a2,c2,rfl,hl2⟩:=kY h0.out;refine (Oi q n d b s L.length c2 a2 (zat L) W ok (hs.below h hs.lt hs.ltb) (by omega) (fun j _=>hfit.all j) (fun j hj=>hl2.row j hj)).mono ?_;rintro e w' ⟨rfl,h1,h2⟩;refine⟨_,rfl,?_,h.trans (h2.mono h.size)⟩;intro j hj;rw[yK] at hj;refine⟨_,0,rfl,h1.lt,?_⟩;rw[Nat.zero_add,h1.cell (by omega)];unfold digl;rw[kZ _ _ _ hj]
 have hcu:Tryz.prog.underlying 25=some (.slice 3):=Tryz.underlying25
 have hci:(Tryz.prog.info? 3).map (·.size)=some 1:=by obtain⟨i0,hi,_,hz1,_⟩:=info_parts Tryz.infoInt;rw[hi];simp[hz1]
 have HCP:Hid (∀ (W:World) (x:Nat),Hid (RowB W.heap.size W (some ⟨x,0,none⟩) (digl q n L))->Below w.heap.size w W->∃ W2,(∀ ty,(Builtin.copy_ #[25,25] ty #[.slice (some ⟨c,1,none⟩) 4 4,.slice (some ⟨x,0,none⟩) 4 4]).run Tryz.prog W=.ok (goInt 4) W2)/\W2.cell? ⟨c,0,none⟩=some (.pointer (some ⟨s,0,none⟩))/\Hid (PCh N0 q n W2 c (digl q n L)/\w.grownBy W2 (some c))):=fun W x hr hb=>by
  have hbW:=(hb.block c hcl).trans hblk
  have hrun:=fun ty=>run_copy_row (P:=Tryz.prog) W 25 25 ty 3 c 1 4 4 ⟨x,0,none⟩ 4 4 _ _ ((digl q n L).map (Value.int .i64)) hcu hci hbW (by rw[List.length_map,yK];rfl)
   (fun j v hj=>by
    have hjl:j<(digl q n L).length:=by
     rcases Nat.lt_or_ge j (digl q n L).length with g | g
     ·exact g
     ·simp[g] at hj
    obtain⟨b',o',e1,_,e2⟩:=hr.out j hjl;cases e1;have hadd:(⟨x,0,none⟩:Addr).add j=⟨x,0+j,none⟩:=by unfold Addr.add;split <;> simp_all
    rw[hadd,e2];simp[zat,hjl] at hj ⊢
    exact hj) (by rw[List.length_map,yK];simp) (fun v hv=>by obtain⟨y,_,rfl⟩:=List.mem_map.1 hv;rfl)
  rw[List.length_map,yK] at hrun;obtain⟨W2,hW2⟩:=exE (W.setRow c ((#[Value.pointer (some ⟨s,0,none⟩),.int .i64 (zat D 0),.int .i64 (zat D 1),.int .i64 (zat D 2),.int .i64 (zat D 3)]:Array Value).toList.take 1++(digl q n L).map (Value.int .i64)++(#[Value.pointer (some ⟨s,0,none⟩),.int .i64 (zat D 0),.int .i64 (zat D 1),.int .i64 (zat D 2),.int .i64 (zat D 3)]:Array Value).toList.drop (1+4)).toArray);rw[<- hW2] at hrun
  have hb2:W2.heap[c]?=some (.cells #[.pointer (some ⟨s,0,none⟩),.int .i64 (zat (digl q n L) 0),.int .i64 (zat (digl q n L) 1),.int .i64 (zat (digl q n L) 2),.int .i64 (zat (digl q n L) 3)] 94 (0,0)):=by
   rw[hW2,setRow_heap W c _ _ _ _ hbW]
   obtain⟨x0,x1,x2,x3,hx⟩:∃ x0 x1 x2 x3,digl q n L=[x0,x1,x2,x3]:=by
    have:=yK q n L
    match digl q n L,this with
    | [x0,x1,x2,x3],_=>exact⟨x0,x1,x2,x3,rfl⟩
   rw[hx];rfl
  have hg2:w.grownBy W2 (some c):=by rw[hW2];exact Cp (qJ hb) _
  refine⟨W2,hrun,Om hb2,⟨s,b,d,ok,hs.blocks ?_ ?_,hsN,hbN,hcN,hb2⟩,hg2⟩
  ·exact qY hg2 hs.lt (by omega)
  ·exact qY hg2 hs.ltb (by omega)
 have HK:Hid (∀ W,Below w.heap.size w W->W.cell? ⟨c,0,none⟩=some (.pointer (some ⟨s,0,none⟩))):=fun W h=>(h.cell (p:=⟨c,0,none⟩) hcl).trans (Om hblk);have hb00:Below w.heap.size w w.drew:=(Below.refl _ _).drew;clear ok hs hblk hfit hlen hl hL h1 hcu hci;go_enter Tryz.func28,Tryz.ntmps28
 go_region_held3 (fun w'=>w'.cell? ⟨c,0,none⟩=some (.pointer (some ⟨s,0,none⟩))) (first | assumption | exact HK.out _ (by assumption) | go_keep)
  (first
   | (go_at_call 68;refine (HC.out _ (by assumption)).mono ?_;rintro e w' ⟨v,rfl,hown,hbj⟩)
   | (go_at_call 67;refine (HH.out _ _ _ (by assumption) (by assumption)).mono ?_;rintro e w' ⟨x,rfl,hrowx,hbh⟩;obtain⟨W2,hcp,hc2,HE⟩:=HCP.out _ _ hrowx hbh))
 go_wp2_with fail;go_end0;exact⟨rfl,HE.out⟩
theorem zQ (w:World) (cs:Array Value) (t:TypeId) (i:Nat) (v:Value) (h:cs[i]?=some v):(w.alloc (.cells cs t)).cell? ⟨w.heap.size,i,none⟩=some v:=by
 unfold World.cell?;rw[show (w.alloc (.cells cs t)).heap[(⟨w.heap.size,i,none⟩:Addr).block]?=some (.cells cs t (0,0)) from heap_alloc_new w _];exact h
theorem Xb{a b:Option Addr}{x:List Int} (ha:Lst n0 w a ca x) (hb:Lst n0 w b cb y) (hn:n0<=w.heap.size):LstR (w.heap.size+1) (w.alloc (.cells #[.slice a x.length ca,.slice b y.length cb] 25)) (some ⟨w.heap.size,0,none⟩) 2 [x,y]:=by
 have hbl:Below w.heap.size w (w.alloc (.cells #[.slice a x.length ca,.slice b y.length cb] 25)):=(Below.refl _ _).alloc (Nat.le_refl _) _;refine⟨fun k hk=>?_,Nat.le_refl _,fun h=>by cases h⟩
 match k,(show k<2 by simpa using hk) with
 | 0,_=>exact⟨w.heap.size,0,a,ca,rfl,by omega,zQ w _ _ _ _ rfl,(ha.below (hbl.mono hn)).mono (by omega)⟩
 | 1,_=>exact⟨w.heap.size,0,b,cb,rfl,by omega,zQ w _ _ _ _ rfl,(hb.below (hbl.mono hn)).mono (by omega)⟩
theorem aFz{a b c:Option Addr}{cc:Nat}{x z:List Int} (ha:Lst n0 w a ca x) (hb:Lst n0 w b cb y) (hc:Lst n0 w c cc z) (hn:n0<=w.heap.size):LstR (w.heap.size+1) (w.alloc (.cells #[.slice a x.length ca,.slice b y.length cb,.slice c z.length cc] 25)) (some ⟨w.heap.size,0,none⟩) 3 [x,y,z]:=by
 have hbl:Below w.heap.size w (w.alloc (.cells #[.slice a x.length ca,.slice b y.length cb,.slice c z.length cc] 25)):=(Below.refl _ _).alloc (Nat.le_refl _) _;refine⟨fun k hk=>?_,Nat.le_refl _,fun h=>by cases h⟩
 match k,(show k<3 by simpa using hk) with
 | 0,_=>exact⟨w.heap.size,0,a,ca,rfl,by omega,zQ w _ _ _ _ rfl,(ha.below (hbl.mono hn)).mono (by omega)⟩
 | 1,_=>exact⟨w.heap.size,0,b,cb,rfl,by omega,zQ w _ _ _ _ rfl,(hb.below (hbl.mono hn)).mono (by omega)⟩
 | 2,_=>exact⟨w.heap.size,0,c,cc,rfl,by omega,zQ w _ _ _ _ rfl,(hc.below (hbl.mono hn)).mono (by omega)⟩
theorem Jy (w:World) (x:Int):Lst (w.alloc (.cells #[.int .i64 x] 3)).heap.size (w.alloc (.cells #[.int .i64 x] 3)) (some ⟨w.heap.size,0,none⟩) 1 [x]:=by
 refine⟨fun k hk=>⟨w.heap.size,0,rfl,by simp,?_⟩,Nat.le_refl _,fun h=>by cases h⟩;obtain rfl:k=0:=by simp at hk;omega
 exact zQ w _ _ _ _ rfl
theorem Tn{x:Int} (h:-9223372036854775808<=x/\x<=9223372036854775807):Fits [x]:=zX h (fun j hj=>by simp at hj)
theorem Lz (N0 q n d s b cap:Nat) (a:Option Addr) (l:List Int) (w:World) (ok:SpgOk q n d) (hs:SpgAt w s b q n d) (hN:N0<=w.heap.size) (hsN:s<N0) (hbN:b<N0) (hlen:l.length<=17592186043904) (hfl:Fits l) (hl:Lst w.heap.size w a cap l) :
  Calls Tryz.prog 11 #[.pointer (some ⟨s,0,none⟩),.slice a l.length cap] w fun e w'=>∃ c,e=.returned (.pointer (some ⟨c,0,none⟩))/\w.heap.size<=c/\PCh N0 q n w' c (digl q n (2 :: l))/\Below w.heap.size w w':=by
 obtain⟨W0,hW0⟩:=exE (w.alloc (.cells #[.pointer (some ⟨s,0,none⟩),.int .i64 0,.int .i64 0,.int .i64 0,.int .i64 0] 94));obtain⟨W1,hW1⟩:=exE (W0.alloc (.cells #[.int .i64 2] 3));obtain⟨W2,hW2⟩:=exE (W1.alloc (.cells #[.slice (some ⟨W0.heap.size,0,none⟩) 1 1,.slice a l.length cap] 25));have hb0:=blA hW0;have hb1:Below w.heap.size w W1:=by rw[hW1];exact hb0.alloc hb0.size _
 have hb2:Below w.heap.size w W2:=by rw[hW2];exact hb1.alloc hb1.size _
 have e0:W0.heap.size=w.heap.size+1:=by rw[hW0];simp
 have e1:W1.heap.size=w.heap.size+2:=by rw[hW1];simp[e0]
 have e2:W2.heap.size=w.heap.size+3:=by rw[hW2];simp[e1]
 have hP0:PCh N0 q n W0 w.heap.size [0,0,0,0]:=⟨s,b,d,ok,hs.below hb0 hs.lt hs.ltb,hsN,hbN,hN,by rw[hW0];exact heap_alloc_new w _⟩
 have hP2:PCh N0 q n W2 w.heap.size [0,0,0,0]:=by
  refine (hP0.below (w':=W1) ?_).below ?_
  ·rw[hW1];exact (Below.refl _ _).alloc (Nat.le_refl _) _
  ·rw[hW2];exact (Below.refl _ _).alloc (Nat.le_refl _) _
 have hl1:Lst W1.heap.size W1 (some ⟨W0.heap.size,0,none⟩) 1 [2]:=by rw[hW1];exact Jy W0 2
 have hR:LstR W2.heap.size W2 (some ⟨W1.heap.size,0,none⟩) 2 [[2],l]:=by have:=Xb hl1 ((hl.below hb1).mono hb1.size) (Nat.le_refl _);rw[e2,show w.heap.size+3=W1.heap.size+1 by omega,hW2];exact this
 have HBC:=hid (Ff N0 q n w.heap.size 2 (some ⟨W1.heap.size,0,none⟩) [[2],l] [0,0,0,0] W2 hP2 (by simp) (by simp;omega) (by simp) (by simpa using zX (x:=2) (by omega) hfl) hR);rw[show ([[2],l]:List (List Int)).flatten=2 :: l from by simp] at HBC;have HB2:=hid hb2;clear hP0 hP2 hl1 hR hs hl hfl ok hb0 hb1 hb2;rw[e1] at HBC;rw[hW2,hW1,e0,hW0] at HBC;go_enter Tryz.func11,Tryz.ntmps11;go_wp2_with fail;refine HBC.out.mono ?_;rintro e w1 ⟨rfl,hP,hg⟩;have HE:Hid (PCh N0 q n w1 w.heap.size (digl q n (2 :: l))/\Below w.heap.size w w1):=⟨hP,HB2.out.trans (by rw[hW2,hW1,e0,hW0];exact Bv hg (Nat.le_refl _) (by simp;omega))⟩
 clear hP hg HBC;go_wp2_with fail;go_ret;exact⟨w.heap.size,rfl,Nat.le_refl _,HE.out.1,HE.out.2⟩
theorem Cu (N0 q n c cap:Nat) (a:Option Addr) (l D:List Int) (w:World) (hP:PCh N0 q n w c D) (hD:Dig D) (hlen:l.length<=17592186043904) (hfl:Fits l) (hl:Lst w.heap.size w a cap l) :
  Calls Tryz.prog 83 #[.pointer (some ⟨c,0,none⟩),.slice a l.length cap] w fun e w'=>e=.returned (.tuple #[])/\PCh N0 q n w' c (digl q n (3 :: (D++l)))/\w.grownBy w' (some c):=by
 have hD4:=hD.1;obtain⟨W1,hW1⟩:=exE (w.alloc (.cells #[.int .i64 3] 3));obtain⟨W2,hW2⟩:=exE (W1.alloc (.cells #[.slice (some ⟨w.heap.size,0,none⟩) 1 1,.slice (some ⟨c,1,none⟩) 4 4,.slice a l.length cap] 25));have hb1:=blA hW1;have hb2:Below w.heap.size w W2:=by rw[hW2];exact hb1.alloc hb1.size _
 have e1:W1.heap.size=w.heap.size+1:=by rw[hW1];simp
 have e2:W2.heap.size=w.heap.size+2:=by rw[hW2];simp[e1]
 have hl1:Lst W1.heap.size W1 (some ⟨w.heap.size,0,none⟩) 1 [3]:=by rw[hW1];exact Jy w 3
 have hld:Lst w.heap.size w (some ⟨c,1,none⟩) 4 D:=by obtain⟨s,b,d,_,_,_,_,_,hblk⟩:=hP;exact Tm hD4 hblk
 have hR:LstR W2.heap.size W2 (some ⟨W1.heap.size,0,none⟩) 3 [[3],D,l]:=by have:=aFz hl1 ((hld.below hb1).mono hb1.size) ((hl.below hb1).mono hb1.size) (Nat.le_refl _);rw[hD4] at this;rw[e2,show w.heap.size+2=W1.heap.size+1 by omega,hW2];exact this
 have HBC:=hid (Ff N0 q n c 3 (some ⟨W1.heap.size,0,none⟩) [[3],D,l] D W2 (hP.below hb2) (by simp) (by simp;omega) (by simp) (by simpa using zX (x:=3) (by omega) (yU hD.2 hfl)) hR);rw[show ([[3],D,l]:List (List Int)).flatten=3 :: (D++l) from by simp] at HBC;have HB2:=hid hb2;clear hl1 hR hl hfl hb1 hb2 hld hP hD hD4;rw[e1,hW2,hW1] at HBC;go_enter Tryz.func83,Tryz.ntmps83;go_wp2_with fail;refine HBC.out.mono ?_;rintro e w1 ⟨rfl,hP,hg⟩;have HE:Hid (PCh N0 q n w1 c (digl q n (3 :: (D++l)))/\w.grownBy w1 (some c)):=⟨hP,qX (qJ HB2.out) (by rw[hW2,hW1];exact hg)⟩
 clear hP hg HBC;go_wp2_with fail;go_end0;exact⟨rfl,HE.out⟩
theorem Em (N0 q n c:Nat) (D:List Int) (w:World) (hP:PCh N0 q n w c D) (hD:Dig D) :
  Calls Tryz.prog 84 #[.pointer (some ⟨c,0,none⟩)] w fun e w'=>e=.returned (.int .i64 (zat (digl q n (4 :: D)) 0))/\PCh N0 q n w' c (digl q n (4 :: D))/\w.grownBy w' (some c):=by
 have hD4:=hD.1;obtain⟨W1,hW1⟩:=exE (w.alloc (.cells #[.int .i64 4] 3));obtain⟨W2,hW2⟩:=exE (W1.alloc (.cells #[.slice (some ⟨w.heap.size,0,none⟩) 1 1,.slice (some ⟨c,1,none⟩) 4 4] 25));have hb1:=blA hW1;have hb2:Below w.heap.size w W2:=by rw[hW2];exact hb1.alloc hb1.size _
 have e1:W1.heap.size=w.heap.size+1:=by rw[hW1];simp
 have e2:W2.heap.size=w.heap.size+2:=by rw[hW2];simp[e1]
 have hl1:Lst W1.heap.size W1 (some ⟨w.heap.size,0,none⟩) 1 [4]:=by rw[hW1];exact Jy w 4
 have hld:Lst w.heap.size w (some ⟨c,1,none⟩) 4 D:=by obtain⟨s,b,d,_,_,_,_,_,hblk⟩:=hP;exact Tm hD4 hblk
 have hR:LstR W2.heap.size W2 (some ⟨W1.heap.size,0,none⟩) 2 [[4],D]:=by have:=Xb hl1 ((hld.below hb1).mono hb1.size) (Nat.le_refl _);rw[hD4] at this;rw[e2,show w.heap.size+2=W1.heap.size+1 by omega,hW2];exact this
 have HBC:=hid (Ff N0 q n c 2 (some ⟨W1.heap.size,0,none⟩) [[4],D] D W2 (hP.below hb2) (by simp) (by simp;omega) (by simp) (by simpa using zX (x:=4) (by omega) hD.2) hR);rw[show ([[4],D]:List (List Int)).flatten=4 :: D from by simp] at HBC;have HB2:=hid hb2;clear hl1 hR hb1 hb2 hld hP hD hD4;rw[e1,hW2,hW1] at HBC;go_enter Tryz.func84,Tryz.ntmps84;go_wp2_with fail;refine HBC.out.mono ?_;rintro e w1 ⟨rfl,hP,hg⟩;have HE:Hid (PCh N0 q n w1 c (digl q n (4 :: D))/\w.grownBy w1 (some c)):=⟨hP,qX (qJ HB2.out) (by rw[hW2,hW1];exact hg)⟩
 obtain⟨s,b,d,_,_,_,_,_,hblk⟩:=hP;have c1:=Tk hblk;clear hblk hg HBC;obtain⟨z,hz⟩:=exE (zat (digl q n (4 :: D)) 0);rw[<- hz] at c1;have HZ:=hid hz;clear hz;go_wp2_with fail;go_ret;exact⟨by rw[<- HZ.out];rfl,HE.out⟩
theorem Ij (N:Int) (w:World):Calls Tryz.prog 107 #[.int .i64 N] w fun e w'=>e=.returned (.bool (decide (1<=N/\N<=65536)))/\w'=w:=by
 by_cases t1:1<=N
 ·by_cases t2:N<=65536
  ·have t:decide (1<=N/\N<=65536)=true:=by simp[t1,t2]
   have t1':N ≥ 1:=t1;rw[t];go_enter Tryz.func107,Tryz.ntmps107;go_wp2_with fail;go_ret;exact⟨rfl,rfl⟩
  ·have t:decide (1<=N/\N<=65536)=false:=by simp[t2]
   have t1':N ≥ 1:=t1;rw[t];go_enter Tryz.func107,Tryz.ntmps107;go_wp2_with fail;go_ret;exact⟨rfl,rfl⟩
 ·have t:decide (1<=N/\N<=65536)=false:=by simp[t1]
  have t1':¬ N ≥ 1:=t1;rw[t];go_enter Tryz.func107,Tryz.ntmps107;go_wp2_with fail;go_ret;exact⟨rfl,rfl⟩
theorem Xc (N0 q n c:Nat) (N:Int) (D:List Int) (w:World) (hP:PCh N0 q n w c D) (hD:Dig D) (hN1:1<=N) (hN2:N<=65536) :
  Calls Tryz.prog 89 #[.pointer (some ⟨c,0,none⟩),.int .i64 N] w fun e w'=>e=.returned (.int .i64 ((zat (digl q n (4 :: D)) 0*q+zat (digl q n (4 :: D)) 1) % N))/\PCh N0 q n w' c (digl q n (4 :: D))/\w.grownBy w' (some c):=by
 have HDR:=hid (Em N0 q n c D w hP hD);have HSZ:=hid (Ij N w);rw[show decide (1<=N/\N<=65536)=true from by simp[hN1,hN2]] at HSZ;have h4:q<=2147483647:=by obtain⟨_,_,_,ok,_⟩:=hP;exact ok.hm
 have h3:23<=q:=by obtain⟨_,_,_,ok,_⟩:=hP;exact ok.h23
 have hbd:∀ j,j<4->0<=zat (digl q n (4 :: D)) j/\zat (digl q n (4 :: D)) j<(q:Int):=fun j hj=>by unfold digl;rw[kZ _ _ _ hj];have:=Fc q n (pdf q (zat (4 :: D)) (4 :: D).length) ((4 :: D).length / 4+1) j (by omega);omega
 have hz0:=hbd 0 (by omega);have hz1:=hbd 1 (by omega);clear hP hD hbd;obtain⟨x,hx⟩:=exE (zat (digl q n (4 :: D)) 0);obtain⟨y,hy⟩:=exE (zat (digl q n (4 :: D)) 1);rw[<- hx] at hz0 HDR ⊢;rw[<- hy] at hz1 ⊢;have HY:=hid hy;clear hx hy;go_enter Tryz.func89,Tryz.ntmps89;go_wp2_with fail;refine HSZ.out.mono ?_;rintro e w0 ⟨rfl,rfl⟩;go_wp2_with fail;refine HDR.out.mono ?_;rintro e w1 ⟨rfl,hP,hg⟩;have HE:Hid (PCh N0 q n w1 c (digl q n (4 :: D))/\w0.grownBy w1 (some c)):=⟨hP,hg⟩
 obtain⟨s,b,d,_,hs,_,_,_,hblk⟩:=hP;have c0:=Om hblk;have c2:=Tl hblk;have HFI:Hid (∀ m,Calls Tryz.prog 6 #[.pointer (some ⟨s,0,none⟩)] (w1.drewN m) fun e w'=>e=.returned (.pointer (some ⟨b,0,none⟩))/\w'=w1.drewN m):=fun m=>zK q n d b s _ (hs.below (below_drewN (Below.refl _ _) m) hs.lt hs.ltb);have HPI:Hid (∀ m,Calls Tryz.prog 44 #[.pointer (some ⟨b,0,none⟩)] (w1.drewN m) fun e w'=>e=.returned (.int .i64 q)/\w'=w1.drewN m):=fun m=>Ny q b _ (hs.below (below_drewN (Below.refl _ _) m) hs.lt hs.ltb).p;clear hg HDR HSZ hblk hs;rw[<- HY.out] at c2;have hx2:x*(q:Int)<=2147483647*2147483647:=Int.mul_le_mul (by omega) (by omega) (by omega) (by omega);have hx0:0<=x*(q:Int):=Int.mul_nonneg hz0.1 (by omega);obtain⟨m,hm⟩:=exE (x*(q:Int));have HM:=hid hm;have hm2:=hm.symm;rw[<- hm] at hx2 hx0;clear hm;have hw1:IntKind.i64.wrap m=m:=by rw[IntKind.wrap_i64];omega
 have hw2:IntKind.i64.wrap (m+y)=m+y:=by rw[IntKind.wrap_i64];omega
 have hN0:¬ N=0:=by omega
 have hte:(m+y).tmod N=(m+y) % N:=Int.tmod_eq_emod_of_nonneg (by omega)
 have hw3:IntKind.i64.wrap ((m+y) % N)=(m+y) % N:=by rw[IntKind.wrap_i64];have:=Int.emod_nonneg (m+y) hN0;have:=Int.emod_lt_of_pos (m+y) (show 0<N by omega);omega
 go_wp2_with fail
 go_quiet (first
  | (go_at_call 6;exact Calls.quiet_of_same (HFI.out _))
  | (go_at_call 44;exact Calls.quiet_of_same (HPI.out _)))
 go_wp2_with fail;go_ret;exact⟨by rw[<- HM.out];rfl,HE.out.1.below (below_drewN (Below.refl _ _) _),qX HE.out.2 (qJ (below_drewN (Below.refl _ _) _))⟩
theorem Xd (N0 q n c N:Nat) (D:List Int) (w:World) (hP:PCh N0 q n w c D) (hD:Dig D) (hN1:1<=N) (hN2:N<=65536) :
  Calls Tryz.prog 57 #[.pointer (some ⟨c,0,none⟩),.int .i64 (N:Int)] w fun e w'=>∃ a cp,e=.returned (.slice a N cp)/\NumL w' a cp (drs q n N D)/\PCh N0 q n w' c (drw q n N D)/\w.grownBy w' (some c):=by
 have HSZ:=hid (Ij (N:Int) w);rw[show decide (1<=(N:Int)/\(N:Int)<=65536)=true from by simp;omega] at HSZ;have h4:q<=2147483647:=by obtain⟨_,_,_,ok,_⟩:=hP;exact ok.hm
 have h3:23<=q:=by obtain⟨_,_,_,ok,_⟩:=hP;exact ok.h23
 have hcl:=hP.lt;have HP:=hid hP;have HD:=hid hD;clear hP hD;have hmk2:=fun w=>run_make_row' (P:=Tryz.prog) 25 3 (.int .i64 0) 8 Tryz.underlying25 Tryz.infoInt rfl .i64 .i64 N (by omega) (by omega) w
 have HR0:Hid (ArrI (w.alloc (.cells (madeCells #[.int .i64 0] N) 3)) w.heap.size 3 N (fll (fun j=>zat (drw q n (j+1) D) 0) (fun _=>0) 0)):=by unfold Hid;rw[jJ];exact World.rowIs_made w _ N _
 have HB0:Hid (Below w.heap.size w (w.alloc (.cells (madeCells #[.int .i64 0] N) 3))):=(Below.refl _ _).alloc (Nat.le_refl _) _;go_enter Tryz.func57,Tryz.ntmps57;go_wp2_with fail;refine HSZ.out.mono ?_;rintro e w0 ⟨rfl,rfl⟩;clear HSZ;go_wp2_with fail
 go_loopw [14] (fun iv wr=>∃ k:Nat,k<=N/\iv=.int .i64 k/\Hid (ArrI wr w0.heap.size 3 N (fll (fun j=>zat (drw q n (j+1) D) 0) (fun _=>0) k)/\PCh N0 q n wr c (drw q n k D)/\w0.grownBy wr (some c)))
  (fun iv _=>N-(intOf iv).toNat)
 case atStart=>exact⟨0,by omega,rfl,HR0.out,HP.out.below HB0.out,qJ HB0.out⟩
 case round =>
  obtain⟨k,hk,rfl,hC⟩:=hrel;by_cases hlt:k<N
  ·have hlt2:(k:Int)<(N:Int):=by omega
   have hks:IntKind.i64.wrap ((k:Int)+1)=(k:Int)+1:=by rw[IntKind.wrap_i64];omega
   have HDR:=hid (Em N0 q n c (drw q n k D) wr hC.out.2.1 (Qo (by omega) h4 n HD.out k));obtain⟨x,hx⟩:=exE (zat (digl q n (4 :: drw q n k D)) 0);rw[<- hx] at HDR;have HX:Hid (x=(fun j=>zat (drw q n (j+1) D) 0) k):=hx;clear hx;go_wp2_with fail;refine HDR.out.mono ?_;rintro e w2 ⟨rfl,hP2,hg2⟩;have HA2:=hid (hC.out.1.block (qY hg2 hC.out.1.lt (by omega)));have HG2:=hid (qX hC.out.2.2 hg2);have HP2:=hid hP2;have hc2:=HA2.out.cell hlt;have hf2:=HA2.out.frozen k;rw[Wf] at hc2;clear HDR hP2 hg2 hC
   have HE:Hid (ArrI (w2.setCell ⟨w0.heap.size,k,none⟩ (.int .i64 x)) w0.heap.size 3 N (fll (fun j=>zat (drw q n (j+1) D) 0) (fun _=>0) (k+1))/\PCh N0 q n (w2.setCell ⟨w0.heap.size,k,none⟩ (.int .i64 x)) c (drw q n (k+1) D)/\w0.grownBy (w2.setCell ⟨w0.heap.size,k,none⟩ (.int .i64 x)) (some c)):=by
    have hbs:Below w0.heap.size w2 (w2.setCell ⟨w0.heap.size,k,none⟩ (.int .i64 x)):=(Below.refl _ _).setCell (p:=⟨w0.heap.size,k,none⟩) (Nat.le_refl _) _;refine⟨?_,HP2.out.blocks (hbs.block c hcl) (fun b hb=>hbs.block b (by have:=HP2.out.ge;omega)),?_⟩
    ·rw[HX.out];exact HA2.out.next
    ·refine⟨HG2.out.os,HG2.out.tape,HG2.out.output,by have:=HG2.out.size;simpa [World.setCell] using this,fun i hi hg=>(hbs.block i hi).trans (HG2.out.block i hi hg)⟩
   clear HA2 HP2 HG2;go_wp2_with fail;go_roundw
   case rel=>exact⟨k+1,by omega,by go_num,HE⟩
   case measure=>simp[intOf];omega
  ·obtain rfl:k=N:=by omega
   have hlt2:¬ (k:Int)<(k:Int):=by omega
   go_wp2_with fail;go_ret;refine⟨_,_,rfl,⟨⟨fun j hj=>?_,by rw[drs,kQ];exact Nat.le_refl _,fun e=>by cases e⟩,fun _=>⟨w0.heap.size,0,_,_,rfl,hC.out.1.heap⟩⟩,hC.out.2.1,hC.out.2.2⟩;rw[drs,kQ] at hj;refine⟨w0.heap.size,0,rfl,hC.out.1.lt,?_⟩;rw[Nat.zero_add,hC.out.1.cell hj,zV hj,drs,kZ _ _ _ hj]
theorem aAP (N0 q n c:Nat) (D:List Int) (w:World) (hP:PCh N0 q n w c D) :
  Calls Tryz.prog 33 #[.pointer (some ⟨c,0,none⟩)] w fun e w'=>∃ c',e=.returned (.pointer (some ⟨c',0,none⟩))/\w.heap.size<=c'/\PCh N0 q n w' c' D/\Below w.heap.size w w':=by
 have hcl:=hP.lt;have HP:=hid hP;obtain⟨s,b,d,ok,hs,hsN,hbN,hcN,hblk⟩:=hP;have c0:=Om hblk;have c1:=Tk hblk;have c2:=Tl hblk;have c3:=Zt hblk;have c4:=Zu hblk;have HX:Hid (SpgOk q n d/\SpgAt w s b q n d/\s<N0/\b<N0/\N0<=c):=⟨ok,hs,hsN,hbN,hcN⟩
 clear ok hs hsN hbN hcN hblk;obtain⟨x,hx⟩:∃ x:Nat->Int,x=zat D:=⟨_,rfl⟩
 rw[<- hx] at c1 c2 c3 c4;have HZ:=hid hx;clear hx;generalize hx0:x 0=x0 at *;generalize hx1:x 1=x1 at *;generalize hx2:x 2=x2 at *;generalize hx3:x 3=x3 at *;have HZ4:Hid (zat D 0=x0/\zat D 1=x1/\zat D 2=x2/\zat D 3=x3):=by unfold Hid;rw[<- HZ.out];exact⟨hx0,hx1,hx2,hx3⟩
 clear hx0 hx1 hx2 hx3 HZ;go_enter Tryz.func33,Tryz.ntmps33;go_wp2_with fail;go_ret;have hb:Below w.heap.size w (w.alloc (.cells #[.pointer (some ⟨s,0,none⟩),.int .i64 x0,.int .i64 x1,.int .i64 x2,.int .i64 x3] 94)):=(Below.refl _ _).alloc (Nat.le_refl _) _;refine⟨w.heap.size,rfl,Nat.le_refl _,⟨s,b,d,HX.out.1,HX.out.2.1.below hb HX.out.2.1.lt HX.out.2.1.ltb,HX.out.2.2.1,HX.out.2.2.2.1,by have:=HX.out.2.2.2.2;omega,?_⟩,hb⟩;rw[HZ4.out.1,HZ4.out.2.1,HZ4.out.2.2.1,HZ4.out.2.2.2];exact heap_alloc_new w _
end Go.Proofs.YtkdndfbfmchcpaaGreatDoor
