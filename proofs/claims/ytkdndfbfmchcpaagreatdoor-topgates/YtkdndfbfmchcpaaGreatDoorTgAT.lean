
import Derived.Test.YtkdndfbfmchcpaaGreatDoorTrgs
set_option maxRecDepth 1000000
set_option maxHeartbeats 8000000
namespace Go.Proofs.YtkdndfbfmchcpaaGreatDoor
variable {N a b base g k:Nat}{W w w':World}{l ps:List Int}{nodes rows:List (List Int)}{v:Value}
open Go.RowKit
def Dc (l:List (Nat × Nat)):List Value:=l.flatMap (fun g=>[Value.int .i64 (g.1:Int),Value.int .i64 (g.2:Int)])
theorem Ub (l:List (Nat × Nat)):(Dc l).length=l.length*2:=by
 induction l with
 | nil=>rfl
 | cons g l ih=>simp only[Dc,List.flatMap_cons,List.length_append,List.length_cons,List.length_nil] at *;omega
theorem Uc (l l':List (Nat × Nat)):Dc (l++l')=Dc l++Dc l':=by simp[Dc]
theorem aCY (l:List (Nat × Nat)):∀ u∈Dc l,u.oneCell'=true:=fun u hu=>by
 obtain⟨g,_,hg⟩:=List.mem_flatMap.1 hu;simp at hg;rcases hg with rfl | rfl <;> rfl
def OwnG (base:Nat) (w:World) (v:Value) (l:List (Nat × Nat)):Prop:=w.ownsRow base 163 2 v l.length (Dc l)
theorem OwnG.nil (base:Nat) (w:World):OwnG base w (.slice none 0 0) []:=World.ownsRow_nil _ _ _ _
theorem OwnG.keep{l:List (Nat × Nat)} (h:OwnG base w v l) (e:Below w.heap.size w w'):OwnG base w' v l:=by
 refine World.ownsRow.kept h (w':=w') (row:=none) ⟨e.os,e.tape,e.output,e.size,fun k hk _=>e.block k hk⟩ ?_;cases v.ownBlock with
 | none=>exact .inl rfl
 | some k=>exact .inr (by simp)
theorem OwnG.mono{base':Nat}{l:List (Nat × Nat)} (h:OwnG base w v l) (e:base'<=base):OwnG base' w v l:=World.ownsRow.mono h e
theorem Ud (W:World) (base:Nat) (v v2:Value) (l1 l2:List (Nat × Nat)) (h1:OwnG base W v l1) (h2:OwnG base W v2 l2) (hlen:l1.length+l2.length<=2000000) (hbase:base<=W.heap.size) :
  ∃ v' w',(Builtin.append_ #[172,172] 172 #[v,v2]).run Tryz.prog W=.ok v' w'/\OwnG base w' v' (l1++l2)/\Below base W w':=by
 have hinf:(Tryz.prog.info? 163).map (fun i=>(i.zero,i.size,i.bytes))=some (some (.agg #[.int .i64 0,.int .i64 0]),2,16):=by kernel_rfl
 obtain⟨i0,hi,hz0,hz1,hz2⟩:=info_parts hinf;have h1':W.ownsRow base 163 2 v l1.length (Dc l1):=h1;rcases h2.2 with ⟨rfl,h0⟩ | ⟨g,cap,cur,rfl,hb,hg,hn,hm,hsz,ht⟩
 ·have hl2:l2=[]:=List.length_eq_zero_iff.1 h0;refine⟨v,W,run_append_owned_none (P:=Tryz.prog) (w:=W) base 172 172 163 i0 2 Tryz.underlying172 hi v l1.length (Dc l1) h1',?_,Below.refl _ _⟩;rw[hl2,List.append_nil];exact h1
 ·obtain⟨v',w2,hr,hown2,hgrow,_⟩:=run_append_own (P:=Tryz.prog) W base 172 172 163 i0 (.agg #[.int .i64 0,.int .i64 0]) 2 16 Tryz.underlying172 hi hz0 hz1 hz2 rfl (by decide) v l1.length (Dc l1) h1' ⟨g,0,none⟩ l2.length cap (Dc l2) (Ub l2) (by
   intro j u hu
   have hj:j<l2.length*2:=by rw[<- Ub];exact (List.getElem?_eq_some_iff.1 hu).1
   have hadd:(⟨g,0,none⟩:Addr).add j=⟨g,0+j,none⟩:=by unfold Addr.add;split <;> simp_all
   rw[hadd,Nat.zero_add];unfold World.cell?;rw[show W.heap[(⟨g,j,none⟩:Addr).block]?=some (.cells cur 163 (0,0)) from hg];show cur[j]?=some u;rw[<- hu,<- ht,List.getElem?_take,if_pos hj]
   simp) (aCY l2) (by unfold maxLen;omega) (by omega) hbase
  refine⟨v',w2,hr,?_,(Below.refl base W).grown hgrow hbase (fun k hk=>(World.ownsRow.lt h1' k hk).1)⟩;show w2.ownsRow base 163 2 v' (l1++l2).length (Dc (l1++l2));rw[List.length_append,Uc];exact hown2
theorem Be{o:Oper}{act:Act}{K:Act->World->Prop}{Q:Exit->Act->World->Prop} (s x:Operand) (t ty:TypeId) (ho:o.op=.call { callee:=.builtin .append,args:=#[s,x],argTypes:=#[t,t] }) (hty:o.type=ty) (v v2 v':Value) (w':World)
  (hr:(Builtin.append_ #[t,t] ty #[v,v2]).run Tryz.prog W=.ok v' w') (hs:act.eval s=v) (hx:act.eval x=v2) (h:K (act.put o.dst v') w'):o.wp Tryz.prog act W K Q:=by
 subst hty;unfold Oper.wp execOp;simp only[ho,resolve,invoke,builtin,Sem.run_bind,Sem.run_pure,Result.andThen_ok,List.map_toArray,List.map_cons,List.map_nil,hs,hx,hr];exact h
theorem aAU{a b m:Int} (h2:m<=b):(seg ps a b).countP (fun x=>decide (x<m))=(seg ps a m).length:=by
 rw[List.countP_eq_length_filter,Ve ps h2]
theorem Dd (ps:List Int) (hA:Asc ps):∀ (k a c:Nat),1<=c->c<=k->a+c<=1000000->∀ (cap:Nat) (av:Option Addr) (w:World),Lst w.heap.size w av cap (seg ps (a:Int) ((a:Int)+(c:Int))) ->
  Calls Tryz.prog 126 #[gk a (a+c),.slice av (seg ps (a:Int) ((a:Int)+(c:Int))).length cap] w fun e w'=>∃ v,e=.returned v/\OwnG w.heap.size w' v (hd2 ps k a c)/\Below w.heap.size w w':=by
 intro k
 induction k with
 | zero=>intro a c h1 h2;omega
 | succ k ih =>
  intro a c h1 h2 h3 cap av w hl;have HIH:=hid ih;have HA:=hid hA;have HL:=hid hl;have hlen:=Ym hA (a:Int) c;obtain⟨n,hn⟩:=exE ((seg ps (a:Int) ((a:Int)+(c:Int))).length);rw[<- hn] at hlen ⊢;have HN:=hid hn;obtain⟨b,hb⟩:=exE (a+c);rw[<- hb];have HB:=hid hb;have hsub:(b:Int)-(a:Int)=(c:Int):=by omega
  clear ih hl hA;unfold gk;by_cases hn0:n=0
  ·have e0:((n:Int)==0)=true:=by rw[beq_iff_eq];omega
   have HD:Hid (hd2 ps (k+1) a c=[(a,b)]):=by unfold Hid;rw[hb];exact Hu (Ro.1 (by omega))
   clear hn hb;go_enter Tryz.func126,Tryz.ntmps126;go_wp2_with fail;go_ret;refine⟨_,rfl,?_,((Below.refl _ _).alloc (Nat.le_refl _) _).alloc (by simp) _⟩;rw[HD.out];refine⟨by simp[Dc],.inr ⟨w.heap.size+1,1,#[.int .i64 (a:Int),.int .i64 (b:Int)],rfl,by omega,?_,Nat.le_refl _,by unfold maxLen;omega,rfl,by simp[Dc]⟩⟩;have:=heap_alloc_new (w.alloc (.cells #[.int .i64 (a:Int),.int .i64 (b:Int)] 163)) (.cells #[.int .i64 (a:Int),.int .i64 (b:Int)] 163)
   rwa [show (w.alloc (.cells #[.int .i64 (a:Int),.int .i64 (b:Int)] 163)).heap.size=w.heap.size+1 from by simp] at this
  ·have e0:((n:Int)==0)=false:=by rw[beq_eq_false_iff_ne];omega
   by_cases hnc:n=c
   ·have e1:((n:Int)==(c:Int))=true:=by rw[beq_iff_eq];omega
    have HD:Hid (hd2 ps (k+1) a c=[]):=Nj HA.out (k+1) a c h1 h2 (by rw[<- hn];exact hnc);clear hn hb hnc hn0;go_enter Tryz.func126,Tryz.ntmps126;go_wp2_with fail;go_ret;refine⟨_,rfl,?_,(Below.refl _ _).alloc (Nat.le_refl _) _⟩;rw[HD.out];exact OwnG.nil _ _
   ·have e1:((n:Int)==(c:Int))=false:=by rw[beq_eq_false_iff_ne];omega
    obtain⟨l1,l2,l3⟩:=zJ c;have l3':=l3 (by omega);clear l1;obtain⟨m,hm⟩:=exE (a+lft c);obtain⟨n1,hn1⟩:=exE ((seg ps (a:Int) (m:Int)).length);have hsp:=Pf HA.out (a:=(a:Int)) (m:=(m:Int)) (b:=(a:Int)+(c:Int)) (by omega) (by omega);have hn1n:n1<=n:=by rw[hn,hsp,List.length_append,<- hn1];omega
    have hn2:(seg ps (m:Int) (b:Int)).length=n-n1:=by have:=congrArg List.length hsp;rw[List.length_append,<- hn,<- hn1] at this;rw[show (b:Int)=(a:Int)+(c:Int) by omega];omega
    have HD:Hid (hd2 ps (k+1) a c=hd2 ps k a (lft c)++hd2 ps k m (b-m)):=by unfold Hid;rw[Hw (fun e=>hn0 (by rw[hn];exact Ro.2 e)) (by omega),hm,hb,show a+c-(a+lft c)=c-lft c by omega]
    have hmx:Tryz.prog.follows .mixedOrders=true:=by kernel_rfl
    obtain⟨bb,oo,hav,hbb⟩:∃ bb oo,av=some ⟨bb,oo,none⟩/\bb<w.heap.size:=by obtain⟨bb,oo,h1,h2,_⟩:=HL.out.row 0 (by rw[<- hn];omega);exact⟨bb,oo,h1,h2⟩
    subst hav;have hcn:n<=cap:=by have:=HL.out.room;rwa [<- hn] at this
    have HPT:Hid (∀ W,Calls Tryz.prog 158 #[.agg #[.int .i64 (a:Int),.int .i64 (b:Int)]] W fun e w'=>e=.returned (.tuple #[.agg #[.int .i64 (a:Int),.int .i64 (m:Int)],.agg #[.int .i64 (m:Int),.int .i64 (b:Int)]])/\Below W.heap.size W w'):=fun W=>by rw[hm];exact Pd a b c hb (by omega) W
    have HBS:Hid (∀ W,Below w.heap.size w W->Calls Tryz.prog 159 #[.slice (some ⟨bb,oo,none⟩) n cap,.int .i64 (m:Int)] W fun e w'=>∃ t,e=.returned (.tuple #[.int .i64 (n1:Int),.bool t])/\Below W.heap.size W w'):=fun W hW=>by
     have:=Tryz.search_any bb oo n cap (seg ps (a:Int) ((a:Int)+(c:Int))) (m:Int) W (by omega) (by omega) (fun j hj=>by
      obtain⟨b',o',e1,e2,e3⟩:=HL.out.row j hj;cases e1
      rw[hW.cell (p:=⟨bb,oo+j,none⟩) hbb,e3,aFb]) (by rw[hn,List.take_length];exact (Rn HA.out _ _).imp (fun h=>Int.le_of_lt h))
     rw[hn,List.take_length,aAU (by omega),<- hn1,<- hn] at this;refine this.mono ?_;rintro e w' ⟨rfl,qq,rfl⟩;exact⟨_,rfl,rfl,rfl,rfl,Nat.le_refl _,fun _ _=>rfl⟩
    have hL1:Lst w.heap.size w (some ⟨bb,oo,none⟩) cap (seg ps (a:Int) (m:Int)):=⟨fun j hj=>by
      obtain⟨b',o',e1,e2,e3⟩:=HL.out.row j (by rw[hsp,List.length_append];omega);refine⟨b',o',e1,e2,e3.trans ?_⟩;rw[hsp]
      simp[zat,List.getElem?_append_left hj],by omega,fun e=>by cases e⟩
    have hL2:∀ o2,(cap=n1∨o2=oo+n1)->Lst w.heap.size w (some ⟨bb,o2,none⟩) (cap-n1) (seg ps (m:Int) (b:Int)):=fun o2 ho2=>⟨fun j hj=>by
      have ho3:o2=oo+n1:=by rcases ho2 with h | h <;> omega
      subst ho3;rw[show (b:Int)=(a:Int)+(c:Int) by omega] at hj;obtain⟨b',o',e1,e2,e3⟩:=HL.out.row (n1+j) (by rw[hsp,List.length_append];omega);cases e1;refine⟨bb,oo+n1,rfl,hbb,?_⟩;rw[Nat.add_assoc,e3,hsp,show (b:Int)=(a:Int)+(c:Int) by omega];simp only[zat]
      rw[List.getElem?_append_right (by omega),hn1,Nat.add_sub_cancel_left],by omega,fun e=>by cases e⟩
    have HC1:Hid (∀ W,Below w.heap.size w W->Calls Tryz.prog 126 #[.agg #[.int .i64 (a:Int),.int .i64 (m:Int)],.slice (some ⟨bb,oo,none⟩) n1 cap] W fun e w'=>∃ v,e=.returned v/\Hid (OwnG W.heap.size w' v (hd2 ps k a (lft c)))/\Below W.heap.size W w'):=fun W hW=>by have:=HIH.out a (lft c) (by omega) (by omega) (by omega) cap (some ⟨bb,oo,none⟩) W (by rw[show (a:Int)+(lft c:Int)=(m:Int) by omega];exact (hL1.below hW).mono hW.size);rw[show (a:Int)+(lft c:Int)=(m:Int) by omega,<- hn1,<- hm] at this;exact this
    have HC2:Hid (∀ (o2:Nat) (W:World),(cap=n1∨o2=oo+n1)->Below w.heap.size w W->Calls Tryz.prog 126 #[.agg #[.int .i64 (m:Int),.int .i64 (b:Int)],.slice (some ⟨bb,o2,none⟩) (n-n1) (cap-n1)] W fun e w'=>∃ v,e=.returned v/\Hid (OwnG W.heap.size w' v (hd2 ps k m (b-m)))/\Below W.heap.size W w'):=fun o2 W ho2 hW=>by have:=HIH.out m (b-m) (by omega) (by omega) (by omega) (cap-n1) (some ⟨bb,o2,none⟩) W (by rw[show (m:Int)+((b-m:Nat):Int)=(b:Int) by omega];exact ((hL2 o2 ho2).below hW).mono hW.size);rw[show (m:Int)+((b-m:Nat):Int)=(b:Int) by omega,hn2,show m+(b-m)=b by omega] at this;exact this
    have hl1l:(hd2 ps k a (lft c)).length<=1000000:=by have:=Er ps k a (lft c) (by omega) (by omega);omega
    have hl2l:(hd2 ps k m (b-m)).length<=1000000:=by have:=Er ps k m (b-m) (by omega) (by omega);omega
    rw[HD.out];generalize hd2 ps k a (lft c)=G1 at *;generalize hd2 ps k m (b-m)=G2 at *;clear hn hb hm hn1 hn2 HIH HA HL HN HB hsp hnc hn0 HD hL1 hL2 l2 l3 l3' hlen h1 h2;by_cases hk:cap=n1
    ·obtain rfl:n=n1:=by omega
     subst hk
     have HC2q:Hid (∀ W,Below w.heap.size w W->Calls Tryz.prog 126 #[.agg #[.int .i64 (m:Int),.int .i64 (b:Int)],.slice (some ⟨bb,oo,none⟩) 0 0] W fun e w'=>∃ v,e=.returned v/\Hid (OwnG W.heap.size w' v G2)/\Below W.heap.size W w'):=fun W hW=>by
      have:=HC2.out oo W (.inl rfl) hW
      rwa [Nat.sub_self] at this
     go_enter Tryz.func126,Tryz.ntmps126;go_wp2_with fail;have HB0:Hid (Below w.heap.size w (w.alloc (.cells #[.int .i64 (a:Int),.int .i64 (b:Int)] 163))):=(Below.refl _ _).alloc (Nat.le_refl _) _;refine (HPT.out _).mono ?_;rintro e w1 ⟨rfl,hb1⟩;have HB1:Hid (Below w.heap.size w w1):=HB0.out.trans (hb1.mono HB0.out.size);clear hb1;go_wp2_with fail;have HB2:Hid (Below w.heap.size w ((w1.alloc (.cells #[.int .i64 (a:Int),.int .i64 (m:Int)] 163)).alloc (.cells #[.int .i64 (m:Int),.int .i64 (b:Int)] 163))):=(HB1.out.alloc HB1.out.size _).alloc (by have:=HB1.out.size;simp;omega) _;have HLc:=hid ((Ai w1 163 (.int .i64 (a:Int)) (.int .i64 (m:Int))).alloc (.cells #[.int .i64 (m:Int),.int .i64 (b:Int)] 163))
     have HRc:Hid (((w1.alloc (.cells #[.int .i64 (a:Int),.int .i64 (m:Int)] 163)).alloc (.cells #[.int .i64 (m:Int),.int .i64 (b:Int)] 163)).rowIs (w1.heap.size+1) 163 2 (duo (.int .i64 (m:Int)) (.int .i64 (b:Int)))):=by
      have:=Ai (w1.alloc (.cells #[.int .i64 (a:Int),.int .i64 (m:Int)] 163)) 163 (.int .i64 (m:Int)) (.int .i64 (b:Int))
      rwa [show (w1.alloc (.cells #[.int .i64 (a:Int),.int .i64 (m:Int)] 163)).heap.size=w1.heap.size+1 from by simp] at this
     generalize (w1.alloc (.cells #[.int .i64 (a:Int),.int .i64 (m:Int)] 163)).alloc (.cells #[.int .i64 (m:Int),.int .i64 (b:Int)] 163)=W2 at *;have hbs:=HBS.out W2 HB2.out;refine hbs.mono ?_;clear hbs;rintro e w3 ⟨tt,rfl,hb3⟩;have HLc3:=hid (HLc.out.of_block (hb3.block _ HLc.out.lt));have HRc3:=hid (HRc.out.of_block (hb3.block _ HRc.out.lt));have HB3:Hid (Below w.heap.size w w3):=HB2.out.trans (hb3.mono HB2.out.size);clear hb3 HLc HRc HB2 HB1 HB0;go_wp2_with fail
     have HKe:Hid (∀ W,Below w3.heap.size w3 W->W.cell? ⟨w1.heap.size,0,none⟩=some (.int .i64 (a:Int))/\W.cell? ⟨w1.heap.size,1,none⟩=some (.int .i64 (m:Int))/\W.cell? ⟨w1.heap.size+1,0,none⟩=some (.int .i64 (m:Int))/\W.cell? ⟨w1.heap.size+1,1,none⟩=some (.int .i64 (b:Int))):=fun W h =>
      ⟨(h.cell (p:=⟨w1.heap.size,0,none⟩) HLc3.out.lt).trans (HLc3.out.cell (i:=0) (by omega)),(h.cell (p:=⟨w1.heap.size,1,none⟩) HLc3.out.lt).trans (HLc3.out.cell (i:=1) (by omega)),(h.cell (p:=⟨w1.heap.size+1,0,none⟩) HRc3.out.lt).trans (HRc3.out.cell (i:=0) (by omega)),(h.cell (p:=⟨w1.heap.size+1,1,none⟩) HRc3.out.lt).trans (HRc3.out.cell (i:=1) (by omega))⟩
     have HC1':Hid (∀ W,Below w3.heap.size w3 W->Calls Tryz.prog 126 #[.agg #[.int .i64 (a:Int),.int .i64 (m:Int)],.slice (some ⟨bb,oo,none⟩) cap cap] W fun e w'=>∃ v,e=.returned v/\Hid (OwnG w3.heap.size w' v G1)/\Below w3.heap.size w3 w'):=fun W hW=>by refine (HC1.out W (HB3.out.trans (hW.mono HB3.out.size))).mono ?_;rintro e w' ⟨v,rfl,h1,h2⟩;exact⟨v,rfl,h1.out.mono hW.size,hW.trans (h2.mono hW.size)⟩
     have HC2':Hid (∀ (W:World) (v1:Value),Hid (OwnG w3.heap.size W v1 G1)->Below w3.heap.size w3 W->Calls Tryz.prog 126 #[.agg #[.int .i64 (m:Int),.int .i64 (b:Int)],.slice (some ⟨bb,oo,none⟩) 0 0] W fun e w'=>∃ v,e=.returned v/\Below w3.heap.size w3 w'/\∃ v' w4,(Builtin.append_ #[172,172] 172 #[v1,v]).run Tryz.prog w'=.ok v' w4/\Hid (OwnG w3.heap.size w4 v' (G1++G2))/\Below w3.heap.size w3 w4):=fun W v1 h0 hW=>by refine (HC2q.out W (HB3.out.trans (hW.mono HB3.out.size))).mono ?_;rintro e w' ⟨v,rfl,h1,h2⟩;obtain⟨v',w4,r1,r2,r3⟩:=Ud w' w3.heap.size v1 v G1 G2 (h0.out.keep h2) (h1.out.mono hW.size) (by omega) (by have:=hW.size;have:=h2.size;omega);exact⟨v,rfl,hW.trans (h2.mono hW.size),v',w4,r1,r2,(hW.trans (h2.mono hW.size)).trans r3⟩
     have hb30:Below w3.heap.size w3 w3.drew:=(Below.refl _ _).drew;clear HC1 HC2 HC2q HPT HBS;have hC0:=HKe.out _ hb30;refine jQ (C:=fun W=>W.cell? ⟨w1.heap.size,0,none⟩=some (.int .i64 (a:Int))/\W.cell? ⟨w1.heap.size,1,none⟩=some (.int .i64 (m:Int))/\W.cell? ⟨w1.heap.size+1,0,none⟩=some (.int .i64 (m:Int))/\W.cell? ⟨w1.heap.size+1,1,none⟩=some (.int .i64 (b:Int))) (st:=[11]) hmx ?_;show jY _ _ _ _ _ _ 12 (Array.replicate 12 false) _ _;refine psT 0 ((.agg #[.int .i64 (a:Int),.int .i64 (m:Int)])) rfl (fun W hC=>?_) hC0 ?_
     ·obtain⟨g0,g1,g2,g3⟩:=hC;go_simp
     refine psU 1 ((.slice (some ⟨bb,oo,none⟩) cap cap)) rfl (fun W _=>?_) (fun _=>hC0) ?_
     ·go_simp
     refine psU 2 ((.int .i64 (cap:Int))) rfl (fun W _=>?_) (fun _=>hC0) ?_
     ·go_simp
     refine psU 3 ((.slice (some ⟨bb,oo,none⟩) cap cap)) rfl (fun W _=>?_) (fun _=>hC0) ?_
     ·go_simp
     refine psT 5 ((.agg #[.int .i64 (m:Int),.int .i64 (b:Int)])) rfl (fun W hC=>?_) hC0 ?_
     ·obtain⟨g0,g1,g2,g3⟩:=hC;go_simp
     refine psU 6 ((.slice (some ⟨bb,oo,none⟩) cap cap)) rfl (fun W _=>?_) (fun _=>hC0) ?_
     ·go_simp
     refine psU 7 ((.int .i64 (cap:Int))) rfl (fun W _=>?_) (fun _=>hC0) ?_
     ·go_simp
     refine psU 8 ((.slice (some ⟨bb,oo,none⟩) 0 0)) rfl (fun W _=>?_) (fun _=>hC0) ?_
     ·go_simp
     refine Ad 4 fun K' hK'=>?_;go_simp;refine (HC1'.out _ hb30).mono ?_;rintro e w' ⟨v1,rfl,hown1,hbv1⟩;refine hK' _ _ ⟨fun _=>HKe.out _ hbv1,?_⟩;clear hK' K';refine Ad 9 fun K' hK'=>?_;go_simp;refine (HC2'.out _ _ hown1 hbv1).mono ?_;rintro e w' ⟨v2,rfl,hbv2,v',w4,hrun,hown4,hb5⟩;refine hK' _ _ ⟨fun _=>HKe.out _ hbv2,?_⟩;clear hK' K';refine Ad 10 fun K' hK'=>?_;refine Be _ _ _ _ rfl rfl _ _ _ _ hrun rfl rfl ?_;refine hK' _ _ ⟨fun _=>HKe.out _ hb5,?_⟩;clear hK' K';refine Ad 11 fun K' hK'=>?_;go_simp;refine hK' _ _ ⟨fun h=>absurd (h 11 (by simp)) (by decide),?_⟩;clear hK' K';refine kJ (by kernel_rfl) ?_ _;go_wp2_with fail;go_ret;exact⟨_,rfl,hown4.out.mono HB3.out.size,HB3.out.trans (hb5.mono HB3.out.size)⟩
    ·have hk2:¬ (cap:Int)=(n1:Int):=by omega
     have hk3:¬ (n1:Int)=(cap:Int):=by omega
     have hk4:(n1:Int)<(cap:Int):=by omega
     have hcn2:(n:Int)<=(cap:Int):=by omega
     have hn1n2:(n1:Int)<=(n:Int):=by omega
     have hn1n3:(n1:Int)<=(cap:Int):=by omega
     go_enter Tryz.func126,Tryz.ntmps126;go_wp2_with fail;have HB0:Hid (Below w.heap.size w (w.alloc (.cells #[.int .i64 (a:Int),.int .i64 (b:Int)] 163))):=(Below.refl _ _).alloc (Nat.le_refl _) _;refine (HPT.out _).mono ?_;rintro e w1 ⟨rfl,hb1⟩;have HB1:Hid (Below w.heap.size w w1):=HB0.out.trans (hb1.mono HB0.out.size);clear hb1;go_wp2_with fail;have HB2:Hid (Below w.heap.size w ((w1.alloc (.cells #[.int .i64 (a:Int),.int .i64 (m:Int)] 163)).alloc (.cells #[.int .i64 (m:Int),.int .i64 (b:Int)] 163))):=(HB1.out.alloc HB1.out.size _).alloc (by have:=HB1.out.size;simp;omega) _;have HLc:=hid ((Ai w1 163 (.int .i64 (a:Int)) (.int .i64 (m:Int))).alloc (.cells #[.int .i64 (m:Int),.int .i64 (b:Int)] 163))
     have HRc:Hid (((w1.alloc (.cells #[.int .i64 (a:Int),.int .i64 (m:Int)] 163)).alloc (.cells #[.int .i64 (m:Int),.int .i64 (b:Int)] 163)).rowIs (w1.heap.size+1) 163 2 (duo (.int .i64 (m:Int)) (.int .i64 (b:Int)))):=by
      have:=Ai (w1.alloc (.cells #[.int .i64 (a:Int),.int .i64 (m:Int)] 163)) 163 (.int .i64 (m:Int)) (.int .i64 (b:Int))
      rwa [show (w1.alloc (.cells #[.int .i64 (a:Int),.int .i64 (m:Int)] 163)).heap.size=w1.heap.size+1 from by simp] at this
     generalize (w1.alloc (.cells #[.int .i64 (a:Int),.int .i64 (m:Int)] 163)).alloc (.cells #[.int .i64 (m:Int),.int .i64 (b:Int)] 163)=W2 at *;have hbs:=HBS.out W2 HB2.out;refine hbs.mono ?_;clear hbs;rintro e w3 ⟨tt,rfl,hb3⟩;have HLc3:=hid (HLc.out.of_block (hb3.block _ HLc.out.lt));have HRc3:=hid (HRc.out.of_block (hb3.block _ HRc.out.lt));have HB3:Hid (Below w.heap.size w w3):=HB2.out.trans (hb3.mono HB2.out.size);clear hb3 HLc HRc HB2 HB1 HB0;go_wp2_with fail
     have HKe:Hid (∀ W,Below w3.heap.size w3 W->W.cell? ⟨w1.heap.size,0,none⟩=some (.int .i64 (a:Int))/\W.cell? ⟨w1.heap.size,1,none⟩=some (.int .i64 (m:Int))/\W.cell? ⟨w1.heap.size+1,0,none⟩=some (.int .i64 (m:Int))/\W.cell? ⟨w1.heap.size+1,1,none⟩=some (.int .i64 (b:Int))):=fun W h =>
      ⟨(h.cell (p:=⟨w1.heap.size,0,none⟩) HLc3.out.lt).trans (HLc3.out.cell (i:=0) (by omega)),(h.cell (p:=⟨w1.heap.size,1,none⟩) HLc3.out.lt).trans (HLc3.out.cell (i:=1) (by omega)),(h.cell (p:=⟨w1.heap.size+1,0,none⟩) HRc3.out.lt).trans (HRc3.out.cell (i:=0) (by omega)),(h.cell (p:=⟨w1.heap.size+1,1,none⟩) HRc3.out.lt).trans (HRc3.out.cell (i:=1) (by omega))⟩
     have HC1':Hid (∀ W,Below w3.heap.size w3 W->Calls Tryz.prog 126 #[.agg #[.int .i64 (a:Int),.int .i64 (m:Int)],.slice (some ⟨bb,oo,none⟩) n1 cap] W fun e w'=>∃ v,e=.returned v/\Hid (OwnG w3.heap.size w' v G1)/\Below w3.heap.size w3 w'):=fun W hW=>by refine (HC1.out W (HB3.out.trans (hW.mono HB3.out.size))).mono ?_;rintro e w' ⟨v,rfl,h1,h2⟩;exact⟨v,rfl,h1.out.mono hW.size,hW.trans (h2.mono hW.size)⟩
     have HC2':Hid (∀ (W:World) (v1:Value),Hid (OwnG w3.heap.size W v1 G1)->Below w3.heap.size w3 W->Calls Tryz.prog 126 #[.agg #[.int .i64 (m:Int),.int .i64 (b:Int)],.slice (some ⟨bb,oo+n1,none⟩) (n-n1) (cap-n1)] W fun e w'=>∃ v,e=.returned v/\Below w3.heap.size w3 w'/\∃ v' w4,(Builtin.append_ #[172,172] 172 #[v1,v]).run Tryz.prog w'=.ok v' w4/\Hid (OwnG w3.heap.size w4 v' (G1++G2))/\Below w3.heap.size w3 w4):=fun W v1 h0 hW=>by refine (HC2.out (oo+n1) W (.inr rfl) (HB3.out.trans (hW.mono HB3.out.size))).mono ?_;rintro e w' ⟨v,rfl,h1,h2⟩;obtain⟨v',w4,r1,r2,r3⟩:=Ud w' w3.heap.size v1 v G1 G2 (h0.out.keep h2) (h1.out.mono hW.size) (by omega) (by have:=hW.size;have:=h2.size;omega);exact⟨v,rfl,hW.trans (h2.mono hW.size),v',w4,r1,r2,(hW.trans (h2.mono hW.size)).trans r3⟩
     have hb30:Below w3.heap.size w3 w3.drew:=(Below.refl _ _).drew;clear HC1 HC2 HPT HBS;have hC0:=HKe.out _ hb30;refine jQ (C:=fun W=>W.cell? ⟨w1.heap.size,0,none⟩=some (.int .i64 (a:Int))/\W.cell? ⟨w1.heap.size,1,none⟩=some (.int .i64 (m:Int))/\W.cell? ⟨w1.heap.size+1,0,none⟩=some (.int .i64 (m:Int))/\W.cell? ⟨w1.heap.size+1,1,none⟩=some (.int .i64 (b:Int))) (st:=[11]) hmx ?_;show jY _ _ _ _ _ _ 12 (Array.replicate 12 false) _ _;refine psT 0 ((.agg #[.int .i64 (a:Int),.int .i64 (m:Int)])) rfl (fun W hC=>?_) hC0 ?_
     ·obtain⟨g0,g1,g2,g3⟩:=hC;go_simp
     refine psU 1 ((.slice (some ⟨bb,oo,none⟩) n cap)) rfl (fun W _=>?_) (fun _=>hC0) ?_
     ·go_simp
     refine psU 2 ((.int .i64 (n1:Int))) rfl (fun W _=>?_) (fun _=>hC0) ?_
     ·go_simp
     refine psU 3 ((.slice (some ⟨bb,oo,none⟩) n1 cap)) rfl (fun W _=>?_) (fun _=>hC0) ?_
     ·go_simp
     refine psT 5 ((.agg #[.int .i64 (m:Int),.int .i64 (b:Int)])) rfl (fun W hC=>?_) hC0 ?_
     ·obtain⟨g0,g1,g2,g3⟩:=hC;go_simp
     refine psU 6 ((.slice (some ⟨bb,oo,none⟩) n cap)) rfl (fun W _=>?_) (fun _=>hC0) ?_
     ·go_simp
     refine psU 7 ((.int .i64 (n1:Int))) rfl (fun W _=>?_) (fun _=>hC0) ?_
     ·go_simp
     refine psU 8 ((.slice (some ⟨bb,oo+n1,none⟩) (n-n1) (cap-n1))) rfl (fun W _=>?_) (fun _=>hC0) ?_
     ·go_simp
     refine Ad 4 fun K' hK'=>?_;go_simp;refine (HC1'.out _ hb30).mono ?_;rintro e w' ⟨v1,rfl,hown1,hbv1⟩;refine hK' _ _ ⟨fun _=>HKe.out _ hbv1,?_⟩;clear hK' K';refine Ad 9 fun K' hK'=>?_;go_simp;refine (HC2'.out _ _ hown1 hbv1).mono ?_;rintro e w' ⟨v2,rfl,hbv2,v',w4,hrun,hown4,hb5⟩;refine hK' _ _ ⟨fun _=>HKe.out _ hbv2,?_⟩;clear hK' K';refine Ad 10 fun K' hK'=>?_;refine Be _ _ _ _ rfl rfl _ _ _ _ hrun rfl rfl ?_;refine hK' _ _ ⟨fun _=>HKe.out _ hb5,?_⟩;clear hK' K';refine Ad 11 fun K' hK'=>?_;go_simp;refine hK' _ _ ⟨fun h=>absurd (h 11 (by simp)) (by decide),?_⟩;clear hK' K';refine kJ (by kernel_rfl) ?_ _;go_wp2_with fail;go_ret;exact⟨_,rfl,hown4.out.mono HB3.out.size,HB3.out.trans (hb5.mono HB3.out.size)⟩
def Aj (a b:Nat) (x:Int):Bool:=decide (x<(a:Int)) || decide ((b:Int)<=x)
theorem aF8 (hk:k<l.length) (h:Aj a b (zat l k)=true):l.any (Aj a b)=true:=List.any_eq_true.2 ⟨zat l k,Gb hk,h⟩
theorem aE0 (h:∀ j,j<l.length->Aj a b (zat l j)=false):l.any (Aj a b)=false:=by
 rw[List.any_eq_false];intro x hx;obtain⟨j,hj,rfl⟩:=Pw hx;rw[h j hj];simp
theorem aAV (a b:Nat) (cap:Nat) (av:Option Addr) (l:List Int) (w:World) (hlen:l.length<=281474976710656) (hrow:RowB w.heap.size w av l) :
  Calls Tryz.prog 155 #[.slice av l.length cap,.func (Fn.func 121) #[.agg #[.int .i64 (a:Int),.int .i64 (b:Int)]] #[]] w fun e w'=>(∃ r:Int,e=.returned (.int .i64 r)/\decide (0<=r)=l.any (Aj a b))/\Below w.heap.size w w':=by
 have HR:=hid hrow;obtain⟨n,hn⟩:=exE (l.length);rw[<- hn] at hlen ⊢;have HN:=hid hn;clear hrow hn;have HLA:Hid (∀ (x:Int) (W:World),Calls Tryz.prog 121 #[.agg #[.int .i64 (a:Int),.int .i64 (b:Int)],.int .i64 x] W fun e w'=>e=.returned (.bool (Aj a b x))/\Below W.heap.size W w'):=fun x W=>aBl a b x W;go_enter Tryz.func155,Tryz.ntmps155;go_wp2_with fail;go_loopw [8] (fun iv wr=>∃ k:Nat,k<=n/\iv=.int .i64 k/\Hid ((∀ j,j<k->Aj a b (zat l j)=false)/\Below w.heap.size w wr)) (fun iv _=>n-(intOf iv).toNat)
 case atStart=>exact⟨0,by omega,rfl,fun j hj=>by omega,Below.refl _ _⟩
 case round =>
  obtain⟨k,hk,rfl,hC⟩:=hrel;by_cases hlt:k<n
  ·have hlt2:(k:Int)<(n:Int):=by omega
   have hks:IntKind.i64.wrap ((k:Int)+1)=(k:Int)+1:=by rw[IntKind.wrap_i64];omega
   obtain⟨bl,ol,rfl,hbl',hcl⟩:=HR.out k (by rw[<- HN.out];exact hlt);have hcl2:=(hC.out.2.cell (p:=⟨bl,ol+k,none⟩) hbl').trans hcl;have HB:=hid hC.out.2;have HP:=hid hC.out.1;have hLA:=HLA.out (zat l k) wr;have HZ:Hid (Aj a b (zat l k)=true->l.any (Aj a b)=true):=fun h=>aF8 (by rw[<- HN.out];exact hlt) h
   have HZ2:Hid (Aj a b (zat l k)=false->∀ j,j<k+1->Aj a b (zat l j)=false):=fun h j hj=>by
    rcases Nat.lt_or_ge j k with h' | h'
    ·exact HP.out j h'
    ·rw[show j=k by omega];exact h
   clear hcl hbl' hC;generalize zat l k=x at *;cases hb:Aj a b x with
   | true =>
    rw[hb] at hLA;have hLA2:=hid hLA;clear hLA;go_wp2_with fail;refine hLA2.out.mono ?_;rintro e w1 ⟨rfl,hb1⟩;have HE:Hid (Below w.heap.size w w1):=HB.out.trans (hb1.mono HB.out.size);have HZ3:=hid (HZ.out hb);clear hb1;go_wp2_with fail;go_ret;refine⟨⟨(k:Int),rfl,?_⟩,HE.out⟩;rw[HZ3.out];simp
   | false =>
    rw[hb] at hLA;have hLA2:=hid hLA;clear hLA;go_wp2_with fail;refine hLA2.out.mono ?_;rintro e w1 ⟨rfl,hb1⟩;have HE:Hid ((∀ j,j<k+1->Aj a b (zat l j)=false)/\Below w.heap.size w w1):=⟨HZ2.out hb,HB.out.trans (hb1.mono HB.out.size)⟩
    clear hb1;go_wp2_with fail;go_roundw
    case rel=>exact⟨k+1,by omega,by go_num,HE⟩
    case measure=>simp[intOf];omega
  ·obtain rfl:k=n:=by omega
   have HE:=hC;clear hC;go_wp2_with fail;go_ret;refine⟨⟨-1,rfl,?_⟩,HE.out.2⟩;rw[aE0 (fun j hj=>HE.out.1 j (by rw[HN.out];exact hj))];simp
theorem Hc (a b:Nat) (cap:Nat) (av:Option Addr) (l:List Int) (w:World) (hlen:l.length<=281474976710656) (hrow:RowB w.heap.size w av l) :
  Calls Tryz.prog 120 #[.slice av l.length cap,.func (Fn.func 121) #[.agg #[.int .i64 (a:Int),.int .i64 (b:Int)]] #[]] w fun e w'=>e=.returned (.bool (l.any (Aj a b)))/\Below w.heap.size w w':=by
 have HI:=hid (aAV a b cap av l w hlen hrow);clear hrow;go_enter Tryz.func120,Tryz.ntmps120;go_wp2_with fail;refine HI.out.mono ?_;rintro e w1 ⟨⟨r,rfl,hr⟩,hb⟩;have HRR:=hid hr;have HB:=hid hb;clear hr hb;go_wp2_with fail;go_ret;exact⟨by rw[<- HRR.out];rfl,HB.out⟩
theorem Qs (h:∀ x∈ps,0<=x/\x<(N:Int)):seg ps ((0:Nat):Int) (((0:Nat):Int)+(N:Int))=ps:=by
 unfold seg;rw[List.filter_eq_self];intro x hx;have:=h x hx;simp;omega
theorem aCZ (h:ps.any (Aj 0 N)=false):∀ x∈ps,0<=x/\x<(N:Int):=fun x hx=>by
 have:=List.any_eq_false.1 h x hx;simp[Aj] at this;omega
def ShwnR (N:Nat) (ps:List Int) (rows nodes:List (List Int)) (w:World) (e:Ending) (w':World):Prop:=(∃ t,e=.returned (.bool t)/\(t=true↔Jp N ps rows nodes))/\Below w.heap.size w w'
theorem ShwnR.no (h:¬ Jp N ps rows nodes) (hb:Below w.heap.size w w'):ShwnR N ps rows nodes w (.returned (.bool false)) w':=⟨⟨false,rfl,by simp;exact h⟩,hb⟩
theorem ShwnR.mk (t:Bool) (h:t=true↔Jp N ps rows nodes) (hb:Below w.heap.size w w'):ShwnR N ps rows nodes w (.returned (.bool t)) w':=⟨⟨t,rfl,h⟩,hb⟩
structure OpnAt (W:World) (O cp cr cn:Nat) (ap ar an':Option Addr) (ps:List Int) (rows nodes:List (List Int)):Prop where
 c0:W.cell? ⟨O,0,none⟩=some (.slice ap ps.length cp)
 c1:W.cell? ⟨O,1,none⟩=some (.slice ar rows.length cr)
 c2:W.cell? ⟨O,2,none⟩=some (.slice an' nodes.length cn)
theorem Ja (N:Nat) (cp cr cn:Nat) (ap ar an':Option Addr) (ps:List Int) (rows nodes:List (List Int)) (w:World) (h1:1<=N) (hN:N<=65536) (hpl:ps.length<=281474976710656) (hnl:nodes.length<=281474976710656) (hp:Lst w.heap.size w ap cp ps) (hn:LstR w.heap.size w an' cn nodes) :
  Calls Tryz.prog 164 #[gk 0 N,.agg #[.slice ap ps.length cp,.slice ar rows.length cr,.slice an' nodes.length cn]] w (ShwnR N ps rows nodes w):=by
 unfold gk;have HL:=hid hp;have HNL:=hid hn;clear hp hn;by_cases hrp:rows.length=ps.length
 ·have hrp2:((rows.length:Int) != (ps.length:Int))=false:=by simp;omega
  have HRP:=hid hrp;clear hrp;have HCO:Hid (∀ W,Below w.heap.size w W->Calls Tryz.prog 120 #[.slice ap ps.length cp,.func (Fn.func 121) #[.agg #[.int .i64 0,.int .i64 (N:Int)]] #[]] W fun e w'=>e=.returned (.bool (ps.any (Aj 0 N)))/\Below W.heap.size W w'):=fun W h=>Hc 0 N cp ap ps W hpl ((HL.out.row.below h).mono h.size);go_enter Tryz.func164,Tryz.ntmps164;go_wp2_with fail
  have HO:=hid (show OpnAt ((w.alloc (.cells #[.int .i64 0,.int .i64 (N:Int)] 163)).alloc (.cells #[.slice ap ps.length cp,.slice ar rows.length cr,.slice an' nodes.length cn] 51)) (w.heap.size+1) cp cr cn ap ar an' ps rows nodes from by
   have h3:=Di (w.alloc (.cells #[.int .i64 0,.int .i64 (N:Int)] 163)) 51 (.slice ap ps.length cp) (.slice ar rows.length cr) (.slice an' nodes.length cn);rw[show (w.alloc (.cells #[.int .i64 0,.int .i64 (N:Int)] 163)).heap.size=w.heap.size+1 from by simp] at h3
   exact⟨h3.cell (i:=0) (by omega),h3.cell (i:=1) (by omega),h3.cell (i:=2) (by omega)⟩)
  have HG:=hid ((Ai w 163 (.int .i64 0) (.int .i64 (N:Int))).alloc (.cells #[.slice ap ps.length cp,.slice ar rows.length cr,.slice an' nodes.length cn] 51));have HB0:Hid (Below w.heap.size w ((w.alloc (.cells #[.int .i64 0,.int .i64 (N:Int)] 163)).alloc (.cells #[.slice ap ps.length cp,.slice ar rows.length cr,.slice an' nodes.length cn] 51))):=((Below.refl _ _).alloc (Nat.le_refl _) _).alloc (by simp) _;have hs0:((w.alloc (.cells #[.int .i64 0,.int .i64 (N:Int)] 163)).alloc (.cells #[.slice ap ps.length cp,.slice ar rows.length cr,.slice an' nodes.length cn] 51)).heap.size=w.heap.size+2:=by simp
  generalize (w.alloc (.cells #[.int .i64 0,.int .i64 (N:Int)] 163)).alloc (.cells #[.slice ap ps.length cp,.slice ar rows.length cr,.slice an' nodes.length cn] 51)=W0 at *;refine (HCO.out W0 HB0.out).mono ?_;rintro e W1 ⟨rfl,hb1⟩;have HB1:Hid (Below w.heap.size w W1):=HB0.out.trans (hb1.mono HB0.out.size)
  have HS:Hid (∀ W,Below W1.heap.size W1 W->OpnAt W (w.heap.size+1) cp cr cn ap ar an' ps rows nodes/\W.cell? ⟨w.heap.size,0,none⟩=some (.int .i64 0)/\W.cell? ⟨w.heap.size,1,none⟩=some (.int .i64 (N:Int))/\Lst W.heap.size W ap cp ps/\LstR W.heap.size W an' cn nodes/\Below w.heap.size w W):=fun W h=>by
   have hb2:Below W0.heap.size W0 W:=hb1.trans (h.mono hb1.size);have hb3:=HB0.out.trans (hb2.mono HB0.out.size)
   exact⟨⟨(hb2.cell (p:=⟨w.heap.size+1,0,none⟩) (by show w.heap.size+1<_;omega)).trans HO.out.c0,(hb2.cell (p:=⟨w.heap.size+1,1,none⟩) (by show w.heap.size+1<_;omega)).trans HO.out.c1,(hb2.cell (p:=⟨w.heap.size+1,2,none⟩) (by show w.heap.size+1<_;omega)).trans HO.out.c2⟩,
    (hb2.cell (p:=⟨w.heap.size,0,none⟩) (by show w.heap.size<_;omega)).trans (HG.out.cell (i:=0) (by omega)),(hb2.cell (p:=⟨w.heap.size,1,none⟩) (by show w.heap.size<_;omega)).trans (HG.out.cell (i:=1) (by omega)),(HL.out.below hb3).mono hb3.size,(HNL.out.below hb3).mono hb3.size,hb3⟩
  clear hb1 HO HG HB0 hs0 HCO;cases hany:ps.any (Aj 0 N) with
  | true =>
   have HNO:Hid (¬ Jp N ps rows nodes):=fun h=>by obtain⟨x,hx,hl⟩:=List.any_eq_true.1 hany;obtain⟨j,hj,rfl⟩:=Pw hx;have:=h.2.1 j hj;simp[Aj] at hl;omega
   clear hany;go_wp2_with fail;go_ret;exact ShwnR.no HNO.out HB1.out
  | false =>
   have HIN:=hid (aCZ hany);clear hany;have hO1:=(HS.out W1 (Below.refl _ _)).1;have hg0:=(HS.out W1 (Below.refl _ _)).2.1;have hg1:=(HS.out W1 (Below.refl _ _)).2.2.1;have k0:=hO1.c0;have k2:=hO1.c2;clear hO1;obtain⟨pl,hpq⟩:=exE (ps.length);rw[<- hpq] at k0 hpl;have HPQ:=hid hpq
   have HROW:Hid (∀ k,k<pl->∃ bl ol,ap=some ⟨bl,ol,none⟩/\W1.cell? ⟨bl,ol+k,none⟩=some (.int .i64 (zat ps k))):=fun k hk=>by obtain⟨b,o,e1,e2,e3⟩:=(HS.out W1 (Below.refl _ _)).2.2.2.1.row k (by rw[<- hpq];exact hk);exact⟨b,o,e1,e3⟩
   rw[<- hpq];clear hpq;go_wp2_with fail;go_loop [26] (fun iv=>∃ k:Nat,k<=pl/\iv=.int .i64 k/\Hid (∀ j,0<j->j<k->zat ps (j-1)<zat ps j)) (fun iv=>pl-(intOf iv).toNat)
   case atStart=>exact⟨0,by omega,rfl,fun j _ hj=>by omega⟩
   case round =>
    obtain⟨k,hk,rfl,hC⟩:=hrel;by_cases hlt:k<pl
    ·have hlt2:(k:Int)<(pl:Int):=by omega
     have hks:IntKind.i64.wrap ((k:Int)+1)=(k:Int)+1:=by rw[IntKind.wrap_i64];omega
     obtain⟨bl,ol,rfl,hcl⟩:=HROW.out k hlt;by_cases hk0:k=0
     ·subst hk0;rw[Nat.add_zero] at hcl;have HE:Hid (∀ j,0<j->j<0+1->zat ps (j-1)<zat ps j):=fun j h1 h2=>by omega
      clear hC;go_wp2_with fail
      go_round
      case rel=>exact⟨0+1,by omega,by go_num,HE⟩
      case measure=>simp[intOf];omega
     ·have hk1:(0:Int)<(k:Int):=by omega
      obtain⟨bl',ol',e1,hcl'⟩:=HROW.out (k-1) (by omega);cases e1;have hkm:(k:Int)-1=((k-1:Nat):Int):=by omega
      have hkm2:((k-1:Nat):Int)<(pl:Int):=by omega
      have HV:Hid (∀ j,j=k-1->zat ps j=zat ps (k-1)):=fun j h=>by rw[h]
      by_cases hge:zat ps k<=zat ps (k-1)
      ·have HNO:Hid (¬ Jp N ps rows nodes):=fun h=>by
        have:=(h.2.1 k (by rw[<- HPQ.out];exact hlt)).2.2 (by omega);omega
       clear hC;obtain⟨k',rfl⟩:∃ k',k=k'+1:=⟨k-1,by omega⟩
       simp only[Nat.add_sub_cancel] at hge hcl' hkm hkm2;generalize zat ps (k'+1)=x at *;generalize zat ps k'=y at *;go_wp2_with fail;go_ret;exact ShwnR.no HNO.out HB1.out
      ·have HE:Hid (∀ j,0<j->j<k+1->zat ps (j-1)<zat ps j):=fun j h1 h2=>by
        rcases Nat.lt_or_ge j k with h' | h'
        ·exact hC.out j h1 h'
        ·rw[show j=k by omega];omega
       clear hC;have hge2:¬ zat ps k<=zat ps (k-1):=hge;obtain⟨k',rfl⟩:∃ k',k=k'+1:=⟨k-1,by omega⟩
       simp only[Nat.add_sub_cancel] at hge2 hge hcl' hkm hkm2;generalize zat ps (k'+1)=x at *;generalize zat ps k'=y at *;go_wp2_with fail
       go_round
       case rel=>exact⟨k'+1+1,by omega,by go_num,HE⟩
       case measure=>simp[intOf];omega
    ·obtain rfl:k=pl:=by omega
     have HASC:Hid (Dk (N:Int) ps):=fun j hj=>⟨(HIN.out _ (Gb hj)).1,(HIN.out _ (Gb hj)).2,fun h=>hC.out j h (by rw[HPQ.out];exact hj)⟩
     clear hC;obtain⟨nl,hnq⟩:=exE (nodes.length);rw[<- hnq] at k2 hnl;have HNQ:=hid hnq
     have HROW2:Hid (∀ j,j<nl->∃ bl ol ak ck,an'=some ⟨bl,ol,none⟩/\W1.cell? ⟨bl,ol+j,none⟩=some (.slice ak (rat nodes j).length ck)):=fun j hj=>by obtain⟨b,o,ak,ck,e1,e2,e3,_⟩:=(HS.out W1 (Below.refl _ _)).2.2.2.2.1.row j (by rw[<- hnq];exact hj);exact⟨b,o,ak,ck,e1,e3⟩
     rw[<- hnq];clear hnq;go_wp2_with fail;go_loop [47] (fun iv=>∃ j:Nat,j<=nl/\iv=.int .i64 j/\Hid (∀ i,i<j->(rat nodes i).length=4)) (fun iv=>nl-(intOf iv).toNat)
     case atStart=>exact⟨0,by omega,rfl,fun i hi=>by omega⟩
     case round =>
      obtain⟨j,hj,rfl,hD⟩:=hrel;by_cases hlt2:j<nl
      ·have hlt3:(j:Int)<(nl:Int):=by omega
       have hks:IntKind.i64.wrap ((j:Int)+1)=(j:Int)+1:=by rw[IntKind.wrap_i64];omega
       obtain⟨bl,ol,ak,ck,rfl,hcl⟩:=HROW2.out j hlt2;have hdg:=Dl ak (rat nodes j).length ck W1;by_cases h4:(rat nodes j).length=4
       ·rw[decide_eq_true h4,h4] at hdg;rw[h4] at hcl
        have HE:Hid (∀ i,i<j+1->(rat nodes i).length=4):=fun i hi=>by
         rcases Nat.lt_or_ge i j with h' | h'
         ·exact hD.out i h'
         ·rw[show i=j by omega];exact h4
        have HDG:=hid hdg;clear hD hdg h4;go_wp2_with fail;refine HDG.out.mono ?_;rintro e w5 ⟨rfl,rfl⟩;go_wp2_with fail
        go_round
        case rel=>exact⟨j+1,by omega,by go_num,HE⟩
        case measure=>simp[intOf];omega
       ·rw[decide_eq_false h4] at hdg;have HNO:Hid (¬ Jp N ps rows nodes):=fun h=>h4 (h.2.2.1 j (by rw[<- HNQ.out];exact hlt2));have HDG:=hid hdg;generalize (rat nodes j).length=ln at *;clear hD hdg h4;go_wp2_with fail;refine HDG.out.mono ?_;rintro e w5 ⟨rfl,rfl⟩;go_wp2_with fail;go_ret;exact ShwnR.no HNO.out HB1.out
      ·obtain rfl:j=nl:=by omega
       have HSEG:=hid (Qs (N:=N) HIN.out)
       have HHI:Hid (Calls Tryz.prog 126 #[.agg #[.int .i64 0,.int .i64 (N:Int)],.slice ap k cp] W1 fun e w'=>∃ v,e=.returned v/\OwnG W1.heap.size w' v (hd2 ps N 0 N)/\Below W1.heap.size W1 w'):=by have:=Dd ps (Rp HASC.out) N 0 N h1 (Nat.le_refl _) (by omega) cp ap W1 (by rw[HSEG.out];exact (HS.out W1 (Below.refl _ _)).2.2.2.1);rw[HSEG.out,<- HPQ.out,Nat.zero_add] at this;exact this
       have HF4:Hid (∀ i,i<nodes.length->(rat nodes i).length=4):=fun i hi=>hD.out i (by rw[HNQ.out];exact hi);clear hD;obtain⟨hl,hhl⟩:=exE ((hd2 ps N 0 N).length);have HHL:=hid hhl
       have HHJ:Hid (∀ W,W=W1.drew->Calls Tryz.prog 126 #[.agg #[.int .i64 0,.int .i64 (N:Int)],.slice ap k cp] W fun e w'=>∃ av c5,e=.returned (.slice av hl c5)/\Below W1.heap.size W1 w'):=fun W hW=>by
        subst hW;have hd1:Below W1.heap.size W1 W1.drew:=(Below.refl _ _).drew;have:=Dd ps (Rp HASC.out) N 0 N h1 (Nat.le_refl _) (by omega) cp ap W1.drew (by rw[HSEG.out];exact (HS.out _ hd1).2.2.2.1);rw[HSEG.out,<- HPQ.out,Nat.zero_add] at this;refine this.mono ?_;rintro e w5 ⟨v,rfl,hov,hb5⟩;rcases hov.2 with ⟨rfl,h0⟩ | ⟨g5,c5,_,rfl,_⟩
        ·exact⟨none,0,by rw[hhl,h0],hd1.trans hb5⟩
        ·exact⟨_,_,by rw[hhl],hd1.trans hb5⟩
       clear hhl HHI HSEG
       have HKe:Hid (∀ W,Below W1.heap.size W1 W->W.cell? ⟨w.heap.size+1,0,none⟩=some (.slice ap k cp)/\W.cell? ⟨w.heap.size+1,2,none⟩=some (.slice an' j cn)/\W.cell? ⟨w.heap.size,0,none⟩=some (.int .i64 0)/\W.cell? ⟨w.heap.size,1,none⟩=some (.int .i64 (N:Int))):=fun W h=>by obtain⟨a1,a2,a3,_⟩:=HS.out W h;exact⟨by rw[a1.c0,HPQ.out],by rw[a1.c2,HNQ.out],a2,a3⟩
       have hd1:Below W1.heap.size W1 W1.drew:=(Below.refl _ _).drew;go_wp2_with fail
       go_region_held3 (fun W=>W.cell? ⟨w.heap.size+1,0,none⟩=some (.slice ap k cp)/\W.cell? ⟨w.heap.size+1,2,none⟩=some (.slice an' j cn)/\W.cell? ⟨w.heap.size,0,none⟩=some (.int .i64 0)/\W.cell? ⟨w.heap.size,1,none⟩=some (.int .i64 (N:Int))) (exact HKe.out _ (by assumption))
        (first
         | (go_at_call 126;refine (HHJ.out _ rfl).mono ?_;rintro e w5 ⟨av,c5,rfl,hb5⟩))
       have HB5:=hid ((HS.out w5 hb5).2.2.2.2.2);go_wp2_with fail;go_ret;refine ShwnR.mk ((j:Int)==(hl:Int)) ?_ HB5.out;rw[beq_iff_eq];constructor
       ·intro h;exact⟨HRP.out,HASC.out,HF4.out,by rw[<- HNQ.out,<- HHL.out];omega⟩
       ·intro h;have:=h.2.2.2;rw[<- HNQ.out,<- HHL.out] at this;omega
 ·have hrp2:((rows.length:Int) != (ps.length:Int))=true:=by simp;omega
  have HRP:=hid hrp;clear hrp;go_enter Tryz.func164,Tryz.ntmps164;go_wp2_with fail;go_ret;exact ShwnR.no (fun h=>HRP.out h.1) (((Below.refl _ _).alloc (Nat.le_refl _) _).alloc (by simp) _)
theorem Oq (h:k<rows.length):(rows.take (k+1)).flatten=(rows.take k).flatten++rat rows k:=by
 have e:rows.take (k+1)=rows.take k++[rat rows k]:=by rw[List.take_add_one,List.getElem?_eq_getElem h];unfold rat;rw[List.getD_eq_getElem?_getD,List.getElem?_eq_getElem h];rfl
 rw[e,List.flatten_append];simp
theorem aE1 (k:Nat):(rows.take k).flatten.length<=rows.flatten.length:=by
 have:=congrArg (fun l=>(List.flatten l).length) (List.take_append_drop k rows);simp only[List.flatten_append,List.length_append] at this;omega
theorem aGe{α β:Type}{A B:α->β->Prop}{C:α->β->Prop} (h:∀ x y,Hid (A x y)->B x y->C x y):∀ x y,A x y->B x y->C x y:=fun x y a b=>h x y a b
theorem Xp (mark:Int) (cap:Nat) (a:Option Addr) (rows:List (List Int)) (w:World) (hlen:rows.flatten.length<=17592186044300) (hrl:rows.length<=17592186044300) (hl:LstR w.heap.size w a cap rows) :
  Calls Tryz.prog 181 #[.int .i64 mark,.slice a rows.length cap] w fun e w'=>∃ v,e=.returned v/\w'.ownsRow w.heap.size 3 1 v (mark :: rows.flatten).length ((mark :: rows.flatten).map (Value.int .i64))/\Below w.heap.size w w':=by
 have HL:=hid hl;have HFL:=hid hlen;clear hl hlen;have HO:=hid (aBH w mark);have HBA:Hid (Below w.heap.size w (w.alloc (.cells #[.int .i64 mark] 3))):=(Below.refl _ _).alloc (Nat.le_refl _) _;obtain⟨m,hm⟩:=exE (rows.length);rw[<- hm] at hrl ⊢;have HM:=hid hm;clear hm;go_enter Tryz.func181,Tryz.ntmps181;go_wp2_with fail
 go_loopw [5,12] (fun v iv wr=>∃ k:Nat,k<=m/\iv=.int .i64 k/\Hid (wr.ownsRow w.heap.size 3 1 v (mark :: (rows.take k).flatten).length ((mark :: (rows.take k).flatten).map (Value.int .i64))/\Below w.heap.size w wr))
  (fun _ iv _=>m-(intOf iv).toNat)
 case atStart =>
  exact⟨0,by omega,rfl,HO.out,HBA.out⟩
 case round =>
  obtain⟨k,hk,rfl,hC⟩:=hrel;by_cases hlt:k<m
  ·have hlt2:(k:Int)<(m:Int):=by omega
   have hks:IntKind.i64.wrap ((k:Int)+1)=(k:Int)+1:=by rw[IntKind.wrap_i64];omega
   obtain⟨bl,ol,ak,ck,rfl,hbl',hcl,hlk⟩:=HL.out.row k (by rw[<- HM.out];exact hlt);have hcl2:=(hC.out.2.cell (p:=⟨bl,ol+k,none⟩) hbl').trans hcl;have HLK:=hid (hlk.below hC.out.2)
   have HLE:Hid ((mark :: (rows.take k).flatten).length+(rat rows k).length<=17592186044416):=by have e1:=Oq (rows:=rows) (k:=k) (by rw[<- HM.out];exact hlt);have e2:=aE1 (rows:=rows) (k+1);have e3:=HFL.out;rw[e1,List.length_append] at e2;show _+1+_<=_;omega
   have HSN:Hid (mark :: (rows.take (k+1)).flatten=(mark :: (rows.take k).flatten)++rat rows k):=by unfold Hid;rw[Oq (by rw[<- HM.out];exact hlt)];rfl
   obtain⟨Z,hZ⟩:=exE (mark :: (rows.take k).flatten);obtain⟨Y,hY⟩:=exE (rat rows k);rw[<- hZ,<- hY] at HSN HLE;rw[<- hZ] at hC;rw[<- hY] at HLK hcl2;clear hcl hbl' hlk hZ hY;go_wp2_with (at_builtin;refine Av wr w.heap.size w.heap.size rfl _ _ rfl _ rfl _ _ hC.out.1 _ _ rfl HLE.out hC.out.2.size HLK.out ?_;refine aGe ?_);intro v' w2 HOW hb2
   have HE:Hid (w2.ownsRow w.heap.size 3 1 v' (mark :: (rows.take (k+1)).flatten).length ((mark :: (rows.take (k+1)).flatten).map (Value.int .i64))/\Below w.heap.size w w2):=by unfold Hid;rw[HSN.out,List.length_append,List.map_append];exact⟨HOW.out,hC.out.2.trans hb2⟩
   clear HOW hb2;go_wp2_with fail;go_roundw
   case rel=>exact⟨k+1,by omega,by go_num,HE⟩
   case measure=>simp[intOf];omega
  ·obtain rfl:k=m:=by omega
   have HT:Hid (rows.take k=rows):=by unfold Hid;rw[HM.out,List.take_length]
   have HE:=hC;rw[HT.out] at HE;clear hC;go_wp2_with fail;go_ret;exact⟨_,rfl,HE.out⟩
theorem an4 (f:Nat->Int):an 4 f=#[.int .i64 (f 0),.int .i64 (f 1),.int .i64 (f 2),.int .i64 (f 3)]:=rfl
theorem Dz{t:TypeId}{f:Nat->Int} (h:ArrI W g t 4 f) (G:Nat->Int):ArrI ((((W.setCell ⟨g,0,none⟩ (.int .i64 (G 0))).setCell ⟨g,1,none⟩ (.int .i64 (G 1))).setCell ⟨g,2,none⟩ (.int .i64 (G 2))).setCell ⟨g,3,none⟩ (.int .i64 (G 3))) g t 4 G :=
 ((((h.set 0 (G 0)).set 1 (G 1)).set 2 (G 2)).set 3 (G 3)).congr (fun j hj=>by
  have:j=0∨j=1∨j=2∨j=3:=by omega
  rcases this with rfl | rfl | rfl | rfl <;> rfl)
theorem Ot (q n d b s g B cap:Nat) (mark:Int) (a:Option Addr) (rows:List (List Int)) (w:World) (ok:SpgOk q n d) (hs:SpgAt w s b q n d) (hw:WlkAt w g B s) (hlen:rows.flatten.length<=17592186044300) (hrl:rows.length<=17592186044300) (hfit:Fits (mark :: rows.flatten)) (hl:LstR w.heap.size w a cap rows) :
  Calls Tryz.prog 160 #[.pointer (some ⟨g,0,none⟩),.int .i64 mark,.slice a rows.length cap] w fun e w'=>e=.returned (.agg (an 4 (zat (digl q n (mark :: rows.flatten)))))/\Below w.heap.size w w':=by
 have h3:3<=q:=by have:=ok.h23;omega
 have hm:=ok.hm;have HOK:=hid ok;have HS:=hid hs;have HW:=hid hw;have HFT:=hid hfit;have HL:=hid hl;have HLE:=hid hlen;have hgl:=hw.lt;obtain⟨L,hL⟩:=exE (mark :: rows.flatten);rw[<- hL];have HLQ:=hid hL;clear ok hs hw hfit hl hlen hL;go_enter Tryz.func160,Tryz.ntmps160;go_wp2_with fail;have HA0:=hid (ArrI.new w 4 175 (fun _=>0));rw[an4] at HA0;have HB0:Hid (Below w.heap.size w (w.alloc (.cells #[.int .i64 0,.int .i64 0,.int .i64 0,.int .i64 0] 175))):=(Below.refl _ _).alloc (Nat.le_refl _) _;generalize w.alloc (.cells #[.int .i64 0,.int .i64 0,.int .i64 0,.int .i64 0] 175)=W0 at *;have hL:=HLQ.out;have HLL:Hid (L.length<=17592186044400):=by unfold Hid;rw[hL];simp only[List.length_cons];have:=HLE.out;omega
 have HFL:Hid (Fits L):=by unfold Hid;rw[hL];exact HFT.out
 have hne:w.heap.size≠g:=by omega
 have HFI:Hid (∀ W,Below W0.heap.size W0 W->Calls Tryz.prog 6 #[.pointer (some ⟨s,0,none⟩)] W fun e w'=>e=.returned (.pointer (some ⟨b,0,none⟩))/\w'=W):=fun W h=>zK q n d b s W ((HS.out.keep HB0.out).keep h)
 have HJ:Hid (∀ W,Below W0.heap.size W0 W->Calls Tryz.prog 181 #[.int .i64 mark,.slice a rows.length cap] W fun e w'=>∃ v,e=.returned v/\Hid (w'.ownsRow W.heap.size 3 1 v L.length (L.map (Value.int .i64)))/\Below W0.heap.size W0 w'):=fun W h=>by have hb:=HB0.out.trans (h.mono HB0.out.size);refine (Xp mark cap a rows W HLE.out hrl ((HL.out.below hb).mono hb.size)).mono ?_;rintro e w' ⟨v,rfl,h1,h2⟩;rw[<- hL] at h1;exact⟨v,rfl,h1,h.trans (h2.mono h.size)⟩
 have HH:Hid (∀ (W:World) (v:Value) (bs:Nat),Hid (W.ownsRow bs 3 1 v L.length (L.map (Value.int .i64)))->Below W0.heap.size W0 W->Calls Tryz.prog 67 #[.pointer (some ⟨s,0,none⟩),v] W fun e w'=>∃ x:Nat,e=.returned (.slice (some ⟨x,0,none⟩) 4 4)/\Hid (RowB w'.heap.size w' (some ⟨x,0,none⟩) (digl q n L))/\Below W0.heap.size W0 w'):=fun W v bs h0 h=>by obtain⟨a2,c2,rfl,hl2⟩:=kY h0.out;refine (Oi q n d b s L.length c2 a2 (zat L) W HOK.out ((HS.out.keep HB0.out).keep h) HLL.out (fun j _=>HFL.out.all j) (fun j hj=>hl2.row j hj)).mono ?_;rintro e w' ⟨rfl,h1,h2⟩;refine⟨_,rfl,?_,h.trans (h2.mono h.size)⟩;intro j hj;rw[yK] at hj;refine⟨_,0,rfl,h1.lt,?_⟩;rw[Nat.zero_add,h1.cell (by omega)];unfold digl;rw[kZ _ _ _ hj]
 have HD:Hid (∀ (W:World) (x:Nat),Hid (RowB W.heap.size W (some ⟨x,0,none⟩) (digl q n L))->Below W0.heap.size W0 W->Calls Tryz.prog 165 #[.pointer (some ⟨b,0,none⟩),.slice (some ⟨x,0,none⟩) 4 4] W fun e w'=>e=.returned (.agg (an 4 (zat (digl q n L))))/\Below W0.heap.size W0 w'):=fun W x h0 h=>by refine (Dm q b 4 (some ⟨x,0,none⟩) (digl q n L) W h3 hm ((HS.out.keep HB0.out).keep h).p (yK _ _ _) (Ic h3 hm n L) h0.out).mono ?_;rintro e w' ⟨rfl,h2⟩;refine⟨?_,h.trans (h2.mono h.size)⟩;rw[Le (g:=zat (digl q n L))];intro j hj;have:=congrArg (fun l=>zat l j) (Hr h3 n L);simp only[elr] at this;rw[kZ _ _ _ (by rw[yK];exact hj)] at this;exact this
 have hKeep:∀ W,Below W0.heap.size W0 W->W.cell? ⟨g,0,none⟩=some (.pointer (some ⟨s,0,none⟩)):=fun W h=>(h.cell (p:=⟨g,0,none⟩) (by have:=HB0.out.size;show g<_;omega)).trans ((HB0.out.cell (p:=⟨g,0,none⟩) hgl).trans HW.out.c0);have HK:=hid hKeep;have HE:Hid (∀ W,Below W0.heap.size W0 W->ArrI W w.heap.size 175 4 (fun _=>0)):=fun W h=>HA0.out.block (h.block _ HA0.out.lt);have hb00:Below W0.heap.size W0 W0.drew:=(Below.refl _ _).drew;clear hKeep hL HLQ HFT HL HLE HW HOK HS HFL HLL
 go_region_held3 (fun w'=>w'.cell? ⟨g,0,none⟩=some (.pointer (some ⟨s,0,none⟩))) (first | exact HK.out _ (by assumption) | go_keep)
  (first
   | (go_at_call 6;refine (HFI.out _ (by assumption)).mono ?_;rintro e w' ⟨rfl,rfl⟩)
   | (go_at_call 181;refine (HJ.out _ (by assumption)).mono ?_;rintro e w' ⟨v,rfl,hown,hbj⟩)
   | (go_at_call 67;refine (HH.out _ _ _ (by assumption) (by assumption)).mono ?_;rintro e w' ⟨x,rfl,hrowx,hbh⟩)
   | (go_at_call 165;refine (HD.out _ _ (by assumption) (by assumption)).mono ?_;rintro e w' ⟨rfl,hbd⟩;rw[an4];have y0:=(HE.out _ hbd).frozen 0;have y1:=(HE.out _ hbd).frozen 1;have y2:=(HE.out _ hbd).frozen 2;have y3:=(HE.out _ hbd).frozen 3;have z0:=(HE.out _ hbd).cell (i:=0) (by decide);have z1:=(HE.out _ hbd).cell (i:=1) (by decide);have z2:=(HE.out _ hbd).cell (i:=2) (by decide);have z3:=(HE.out _ hbd).cell (i:=3) (by decide)))
 have HF4:=hid (Dz (HE.out _ hbd) (zat (digl q n L)))
 have HBE:Hid (Below w.heap.size w ((((w'.setCell ⟨w.heap.size,0,none⟩ (.int .i64 (zat (digl q n L) 0))).setCell ⟨w.heap.size,1,none⟩ (.int .i64 (zat (digl q n L) 1))).setCell ⟨w.heap.size,2,none⟩ (.int .i64 (zat (digl q n L) 2))).setCell ⟨w.heap.size,3,none⟩ (.int .i64 (zat (digl q n L) 3)))) :=
  ((((HB0.out.trans (hbd.mono HB0.out.size)).setCell (p:=⟨w.heap.size,0,none⟩) (Nat.le_refl _) _).setCell (p:=⟨w.heap.size,1,none⟩) (Nat.le_refl _) _).setCell (p:=⟨w.heap.size,2,none⟩) (Nat.le_refl _) _).setCell (p:=⟨w.heap.size,3,none⟩) (Nat.le_refl _) _
 clear y0 y1 y2 y3 z0 z1 z2 z3;go_wp2_with fail;refine bodyPost_ret (xQ rfl _ _ w.heap.size 175 4 _ _ (zat (digl q n L)) rfl HF4.out Tryz.underlying175 (by kernel_rfl)) rfl ?_;exact⟨rfl,HBE.out⟩
theorem aDa{a:Option Addr}{cap:Nat}{row:List Int} (hl:Lst w.heap.size w a cap row):LstR (w.heap.size+1) (w.drew.alloc (.cells #[.slice a row.length cap] 25)) (some ⟨w.heap.size,0,none⟩) 1 [row]:=by
 have hb:Below w.heap.size w (w.drew.alloc (.cells #[.slice a row.length cap] 25)):=(Below.refl _ _).drew.alloc (Nat.le_refl _) _;refine⟨fun k hk=>?_,Nat.le_refl _,fun h=>by cases h⟩;obtain rfl:k=0:=by simp at hk;omega
 refine⟨w.heap.size,0,a,cap,rfl,by omega,?_,(hl.below hb).mono (by omega)⟩;have:=heap_alloc_new w.drew (.cells #[.slice a row.length cap] 25);unfold World.cell?;rw[show (w.drew.alloc (.cells #[.slice a row.length cap] 25)).heap[(⟨w.heap.size,0+0,none⟩:Addr).block]?=some (.cells #[.slice a row.length cap] 25 (0,0)) from this];rfl
theorem Ml (q n d b s g B cap x:Nat) (a:Option Addr) (row:List Int) (M:Nat->Nat->Option (List Int)) (w:World) (ok:SpgOk q n d) (hs:SpgAt w s b q n d) (hw:WlkAt w g B s) (hM:MapIs w B M) (hx:x<=1000000) (hlen:row.length<=17592186044000) (hfit:Fits row) (hl:Lst w.heap.size w a cap row) :
  Calls Tryz.prog 127 #[.pointer (some ⟨g,0,none⟩),.int .i64 (x:Int),.slice a row.length cap] w fun e w'=>e=.returned (.tuple #[])/\MapIs w' B (upd M x (x+1) (digl q n (0 :: row)))/\w.grownBy w' (some B):=by
 have c1:=hw.c1;have hgl:=hw.lt;have hBl:=hM.lt
 have hBg:B≠g:=fun e=>by obtain⟨es,ck,h1,_⟩:=hM;unfold WlkAt at hw;rw[e,hw] at h1;cases h1
 have HB1:Hid (Below w.heap.size w (w.drew.alloc (.cells #[.slice a row.length cap] 25))):=(Below.refl _ _).drew.alloc (Nat.le_refl _) _
 have HH:Hid (Calls Tryz.prog 160 #[.pointer (some ⟨g,0,none⟩),.int .i64 0,.slice (some ⟨w.heap.size,0,none⟩) 1 1] (w.drew.alloc (.cells #[.slice a row.length cap] 25)) fun e w'=>e=.returned (.agg #[.int .i64 (zat (digl q n (0 :: row)) 0),.int .i64 (zat (digl q n (0 :: row)) 1),.int .i64 (zat (digl q n (0 :: row)) 2),.int .i64 (zat (digl q n (0 :: row)) 3)])/\w'.cell? ⟨g,1,none⟩=some (.map (some B))/\∃ w2,(Instr.mapUpdate 196 (.map (some B)) (.agg #[.int .i64 (x:Int),.int .i64 ((x:Int)+1)]) (.agg #[.int .i64 (zat (digl q n (0 :: row)) 0),.int .i64 (zat (digl q n (0 :: row)) 1),.int .i64 (zat (digl q n (0 :: row)) 2),.int .i64 (zat (digl q n (0 :: row)) 3)])).run Tryz.prog w'=.ok () w2/\w2.cell? ⟨g,1,none⟩=some (.map (some B))/\Hid (MapIs w2 B (upd M x (x+1) (digl q n (0 :: row)))/\w.grownBy w2 (some B))):=by
  have hlr:=aDa hl;have e0:(0 :: row)=0 :: [row].flatten:=by simp
  refine (Ot q n d b s g B 1 0 (some ⟨w.heap.size,0,none⟩) [row] (w.drew.alloc (.cells #[.slice a row.length cap] 25)) ok (hs.keep HB1.out) (hw.block (HB1.out.block _ hgl)) (by simp;omega) (by simp) (by rw[<- e0];exact zX (by omega) hfit) ?_).mono ?_
  ·have hsz:(w.drew.alloc (.cells #[.slice a row.length cap] 25)).heap.size=w.heap.size+1:=by simp
   rw[hsz];exact hlr
  ·rintro e w' ⟨rfl,hb⟩;rw[<- e0];have hb2:=HB1.out.trans (hb.mono HB1.out.size);obtain⟨w2,h1,h2,h3⟩:=(hM.below hb2 hBl).update (a:=x) (b:=x+1) (by omega) (by omega) (digl q n (0 :: row));rw[an4,show gk x (x+1)=.agg #[.int .i64 (x:Int),.int .i64 ((x:Int)+1)] from by simp[gk]] at h1;have c2:=(hb2.cell (p:=⟨g,1,none⟩) hgl).trans c1;exact⟨rfl,c2,w2,h1,(Ay h3 (p:=⟨g,1,none⟩) (by have:=hb2.size;show g<_;omega) (Ne.symm hBg)).trans c2,h2,qX (qJ hb2) h3⟩
 have hwr:IntKind.i64.wrap ((x:Int)+1)=(x:Int)+1:=by rw[IntKind.wrap_i64];omega
 clear ok hs hw hM hfit hl HB1;generalize digl q n (0 :: row)=DL at *;go_enter Tryz.func127,Tryz.ntmps127;go_wp2_with fail
 go_region_held3 (fun w'=>w'.cell? ⟨g,1,none⟩=some (.map (some B))) (go_keep)
  (first
   | (go_at_call 160;refine HH.out.mono ?_;rintro e w' ⟨rfl,c2,w2,hrun,c3,hE⟩))
 go_wp2_with fail;go_end0;exact⟨rfl,hE.out⟩
def Snd (M:Nat->Nat->Option (List Int)) (D:Nat->Nat->List Int):Prop:=∀ a b d,M a b=some d->d=D a b
def Sub (M M':Nat->Nat->Option (List Int)):Prop:=∀ a b,M a b≠none->M' a b≠none
def ClM (M M':Nat->Nat->Option (List Int)):Prop:=∀ a b,M' a b≠none->M a b≠none∨(2<=b-a/\M' a (a+lft (b-a))≠none/\M' (a+lft (b-a)) b≠none)
structure RootW (w W1:World) (g B s x y:Nat) (M:Nat->Nat->Option (List Int)):Prop where
 below:Below w.heap.size w W1
 size:W1.heap.size=w.heap.size+2
 key:W1.rowIs w.heap.size 163 2 (duo (.int .i64 (x:Int)) (.int .i64 (y:Int)))
 res:ArrI W1 (w.heap.size+1) 175 4 (fun _=>0)
 map:MapIs W1 B M
 c1:W1.cell? ⟨g,1,none⟩=some (.map (some B))
theorem Ou{B s x y:Nat}{M:Nat->Nat->Option (List Int)} (hw:WlkAt w g B s) (hM:MapIs w B M):RootW w ((w.alloc (.cells #[.int .i64 (x:Int),.int .i64 (y:Int)] 163)).alloc (.cells #[.int .i64 0,.int .i64 0,.int .i64 0,.int .i64 0] 175)) g B s x y M:=by
 have hb:Below w.heap.size w ((w.alloc (.cells #[.int .i64 (x:Int),.int .i64 (y:Int)] 163)).alloc (.cells #[.int .i64 0,.int .i64 0,.int .i64 0,.int .i64 0] 175)):=((Below.refl _ _).alloc (Nat.le_refl _) _).alloc (by simp) _;exact⟨hb,by simp,(Ai w _ _ _).alloc _,ArrI.new2 w _ 4 175 (fun _=>0),hM.below hb hM.lt,(hb.cell (p:=⟨g,1,none⟩) hw.lt).trans hw.c1⟩
theorem Jb (s g B x y:Nat) (dl:List Int) (M:Nat->Nat->Option (List Int)) (w:World) (hw:WlkAt w g B s) (hM:MapIs w B M) (hx:x<=1000000) (hy:y<=1000000) (hd:M x y=some dl) :
  Calls Tryz.prog 128 #[.pointer (some ⟨g,0,none⟩),gk x y] w fun e w'=>e=.returned (.agg (an 4 (zat dl)))/\Below w.heap.size w w':=by
 unfold gk;have HR:=hid (Ou (x:=x) (y:=y) hw hM);have hgl:=hw.lt;have hBl:=hM.lt;clear hw hM;go_enter Tryz.func128,Tryz.ntmps128;go_wp2_with fail;generalize (w.alloc (.cells #[.int .i64 (x:Int),.int .i64 (y:Int)] 163)).alloc (.cells #[.int .i64 0,.int .i64 0,.int .i64 0,.int .i64 0] 175)=W1 at *;have hsz:=HR.out.size
 have HK:Hid (∀ W,Below W1.heap.size W1 W->W.cell? ⟨g,1,none⟩=some (.map (some B))/\W.cell? ⟨w.heap.size,0,none⟩=some (.int .i64 (x:Int))/\W.cell? ⟨w.heap.size,1,none⟩=some (.int .i64 (y:Int))/\W.heap[B]?=W1.heap[B]?):=fun W h =>
  ⟨(h.cell (p:=⟨g,1,none⟩) (by show g<_;omega)).trans HR.out.c1,(h.cell (p:=⟨w.heap.size,0,none⟩) (by show w.heap.size<_;omega)).trans (HR.out.key.cell (i:=0) (by omega)),(h.cell (p:=⟨w.heap.size,1,none⟩) (by show w.heap.size<_;omega)).trans (HR.out.key.cell (i:=1) (by omega)),h.block B (by omega)⟩
 have hLk:∀ W,W.heap[B]?=W1.heap[B]?->(Instr.lookup 196 (.map (some B)) (.agg #[.int .i64 (x:Int),.int .i64 (y:Int)]) true).run Tryz.prog W=.ok (.tuple #[.agg #[.int .i64 (zat dl 0),.int .i64 (zat dl 1),.int .i64 (zat dl 2),.int .i64 (zat dl 3)],.bool true]) W:=fun W h=>by have:=(HR.out.map.block h).lookup (a:=x) (b:=y) (by omega) (by omega) true;rw[hd,show Yk M x y=zat dl from by unfold Yk;rw[hd],an4] at this;exact this
 go_region_held3 (fun w'=>w'.cell? ⟨g,1,none⟩=some (.map (some B))/\w'.cell? ⟨w.heap.size,0,none⟩=some (.int .i64 (x:Int))/\w'.cell? ⟨w.heap.size,1,none⟩=some (.int .i64 (y:Int))/\w'.heap[B]?=W1.heap[B]?)
  (first | exact HK.out _ (Below.refl _ _).drew | exact HK.out _ ((Below.refl _ _).drew.alloc (Nat.le_refl _) _)) (fail)
 all_goals (
  have HAd:=hid (ArrI.new W1 4 175 (zat dl)).drew;rw[an4,hsz] at HAd;have HAr:=hid (HR.out.res.alloc (.cells #[.int .i64 (zat dl 0),.int .i64 (zat dl 1),.int .i64 (zat dl 2),.int .i64 (zat dl 3)] 175)).drew;have HBe:Hid (Below w.heap.size w (W1.alloc (.cells #[.int .i64 (zat dl 0),.int .i64 (zat dl 1),.int .i64 (zat dl 2),.int .i64 (zat dl 3)] 175)).drew):=(HR.out.below.alloc (by omega) _).drew;clear HK hLk HR hsz;generalize (W1.alloc (.cells #[.int .i64 (zat dl 0),.int .i64 (zat dl 1),.int .i64 (zat dl 2),.int .i64 (zat dl 3)] 175)).drew=W2 at *
  go_wp2_with (first
    | (refine jU rfl 175 _ rfl _ rfl _ _ _ _ _ HAd.out Tryz.underlying175 (by kernel_rfl) ?_)
    | (refine jX rfl 175 _ _ rfl _ _ _ _ rfl rfl _ HAr.out (by kernel_rfl) ?_))
  refine bodyPost_ret (xQ rfl _ _ (w.heap.size+1) 175 4 _ _ (zat dl) rfl (HAr.out.setRow _) Tryz.underlying175 (by kernel_rfl)) rfl ?_
  exact⟨rfl,below_setRow HBe.out (by omega) _⟩)
end Go.Proofs.YtkdndfbfmchcpaaGreatDoor
