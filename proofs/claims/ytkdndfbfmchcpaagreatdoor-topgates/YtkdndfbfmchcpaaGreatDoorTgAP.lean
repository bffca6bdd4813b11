
import Derived.Test.YtkdndfbfmchcpaaGreatDoorTgAO
set_option maxRecDepth 1000000
set_option maxHeartbeats 8000000
namespace Go.Proofs.YtkdndfbfmchcpaaGreatDoor
variable {A W w w':World}{B X XR base c cap g n0 q:Nat}{Ls r rs:List (List Int)}{a:Option Addr}{dv lv rv u:Value}{l xs:List Int}
open Go.RowKit
structure ShI (base:Nat) (w:World) (rv dv:Value) (rs:List (List Int)) (xs:List Int):Prop where
 rds:∃ vals:List Value,w.ownsRow base 25 1 rv rs.length vals/\∀ j,j<rs.length->∃ g,vals[j]?=some (.slice (some ⟨g,0,none⟩) 3 3)/\base<=g/\ArrI w g 3 3 (zat (rat rs j))/\dv.ownBlock≠some g
 drw:w.ownsRow base 3 1 dv xs.length (xs.map (Value.int .i64))
theorem ShI.grown (h:ShI base w rv dv rs xs) (e:w.grownBy w' (some c)) (hc:c<base):ShI base w' rv dv rs xs:=by
 obtain⟨vals,h1,h2⟩:=h.rds;refine⟨⟨vals,h1.kept (row:=some c) e ?_,fun j hj=>?_⟩,aCL h.drw e hc⟩
 ·cases hv:rv.ownBlock with
  | none=>simp
  | some g=>have:=(h1.lt g hv).1;simp;omega
 ·obtain⟨g,e1,e2,e3,e4⟩:=h2 j hj;exact⟨g,e1,e2,e3.block (qY e e3.lt (by omega)),e4⟩
theorem ShI.below (h:ShI base w rv dv rs xs) (e:Below w.heap.size w w'):ShI base w' rv dv rs xs:=by
 obtain⟨vals,h1,h2⟩:=h.rds;refine⟨⟨vals,xV h1 e,fun j hj=>?_⟩,xV h.drw e⟩;obtain⟨g,e1,e2,e3,e4⟩:=h2 j hj;exact⟨g,e1,e2,e3.below e (by exact e3.lt),e4⟩
theorem ShI.mono{base':Nat} (h:ShI base w rv dv rs xs) (e:base'<=base):ShI base' w rv dv rs xs:=by
 obtain⟨vals,h1,h2⟩:=h.rds;refine⟨⟨vals,h1.mono e,fun j hj=>?_⟩,h.drw.mono e⟩;obtain⟨g,e1,e2,e3,e4⟩:=h2 j hj;exact⟨g,e1,by omega,e3,e4⟩
theorem Al{n:Nat}{t:TypeId}{v:Value}{xs:List Value} (h:w.ownsRow base t 1 v n xs):∀ k,v.ownBlock=some k->∃ c f,w.heap[k]?=some (.cells c t f):=fun k hk=>by
 rcases h.2 with ⟨rfl,_⟩ | ⟨g,cap,cur,rfl,hb,hg,_⟩
 ·simp[Value.ownBlock] at hk
 ·simp[Value.ownBlock] at hk;subst hk;exact⟨_,_,hg⟩
theorem ShI.push{O:Nat}{r:List Int} (h:ShI base W rv dv rs xs) (hX:W.heap[X]?=some (.cells #[.slice (some ⟨O,0,none⟩) 3 3] 25 (0,0))) (hA:ArrI W O 3 3 (zat r)) (hO:base<=O) (hd:dv.ownBlock≠some O) (hlen:rs.length<=1000000) (hbase:base<=W.heap.size) :
  ∃ v' w5,(Builtin.append_ #[36,36] 36 #[rv,.slice (some ⟨X,0,none⟩) 1 1]).run Tryz.prog W=.ok v' w5/\ShI base w5 v' dv (rs++[r]) xs/\ArrI w5 O 3 3 (zat r)/\Below base W w5:=by
 obtain⟨i0,hi,hz0,hz1,hz2⟩:=info_parts Tryz.infoSl;obtain⟨vals,h1,h2⟩:=h.rds;have hvl:vals.length=rs.length:=by have:=h1.1;omega
 obtain⟨v',w5,hrun,hown2,hgrow,_,_⟩:=run_append_own_at W base 36 36 25 i0 _ 1 24 Tryz.underlying36 hi hz0 hz1 hz2 rfl (by decide) rv _ _ h1 ⟨X,0,none⟩ 1 1 [.slice (some ⟨O,0,none⟩) 3 3] rfl (by
  intro j t hj
  match j,hj with
  | 0,hj=>simp at hj;subst hj;simp[Addr.add,World.cell?,hX]) (by intro t ht;simp at ht;subst ht;rfl) (by unfold maxLen;omega) (by omega) hbase
 have hI:∀ (b:Nat) (cs:Array Value) (f:Nat × Nat),W.heap[b]?=some (.cells cs 3 f)->w5.heap[b]?=W.heap[b]?:=fun b cs f hb=>hgrow.block b (Array.getElem?_eq_some_iff.1 hb).1 (fun e=>by
  obtain⟨c,f',hg⟩:=Al h1 b e.symm;rw[hb] at hg
  simp at hg)
 have hAr:∀ (g n:Nat) (f:Nat->Int),ArrI W g 3 n f->ArrI w5 g 3 n f:=fun g n f ha=>ha.block (hI g _ _ ha.heap);refine⟨v',w5,hrun,⟨⟨vals++[.slice (some ⟨O,0,none⟩) 3 3],by rw[List.length_append];exact hown2,fun j hj=>?_⟩,h.drw.kept hgrow ?_⟩,hAr _ _ _ hA,(Below.refl base W).grown hgrow hbase (fun k hk=>(h1.lt k hk).1)⟩
 ·rw[List.length_append] at hj;rw[Hp rs [r] j];by_cases hjr:j<rs.length
  ·rw[if_pos hjr,List.getElem?_append_left (by omega)];obtain⟨g,e1,e2,e3,e4⟩:=h2 j hjr;exact⟨g,e1,e2,hAr _ _ _ e3,e4⟩
  ·rw[if_neg hjr,List.getElem?_append_right (by omega),hvl];obtain e:j=rs.length:=by simp at hj;omega
   subst e;rw[Nat.sub_self];exact⟨O,rfl,hO,hAr _ _ _ hA,hd⟩
 ·cases hv:dv.ownBlock with
  | none=>simp
  | some g =>
   refine Or.inr (fun e=>?_);obtain⟨c,f,hg⟩:=Al h.drw g hv;obtain⟨c',f',hg'⟩:=Al h1 g e.symm;rw[hg] at hg';simp at hg'
theorem ShI.draw{y:Int} (h:ShI base W rv dv rs xs) (hc:W.cell? ⟨g,0,none⟩=some (.int .i64 y)) (hlen:xs.length<=1000000) (hbase:base<=W.heap.size) :
  ∃ v' w5,(Builtin.append_ #[25,25] 25 #[dv,.slice (some ⟨g,0,none⟩) 1 1]).run Tryz.prog W=.ok v' w5/\ShI base w5 rv v' rs (xs++[y])/\Below base W w5:=by
 obtain⟨i0,hi0,hz0,hz1,hz2⟩:=info_parts Tryz.infoInt
 obtain⟨v',w5,hrun,hown2,hgrow,_,hat⟩:=run_append_own_at W base 25 25 3 i0 _ 1 8 Tryz.underlying25 hi0 hz0 hz1 hz2 rfl (by decide) dv _ _ h.drw ⟨g,0,none⟩ 1 1 [.int .i64 y] rfl (by
  intro j u hj
  match j,hj with
  | 0,hj=>simp at hj;subst hj;exact hc
  | j+1,hj=>simp at hj) (by intro u hu;simp at hu;subst hu;rfl) (by unfold maxLen;omega) (by omega) hbase
 obtain⟨vals,h1,h2⟩:=h.rds;refine⟨v',w5,hrun,⟨⟨vals,h1.kept hgrow ?_,fun j hj=>?_⟩,by rw[List.length_append,List.map_append];exact hown2⟩,(Below.refl base W).grown hgrow hbase (fun k hk=>(h.drw.lt k hk).1)⟩
 ·cases hv:rv.ownBlock with
  | none=>simp
  | some k =>
   refine Or.inr (fun e=>?_);obtain⟨c,f,hg⟩:=Al h1 k hv;obtain⟨c',f',hg'⟩:=Al h.drw k e.symm;rw[hg] at hg';simp at hg'
 ·obtain⟨k,e1,e2,e3,e4⟩:=h2 j hj;refine⟨k,e1,e2,e3.block (hgrow.block k e3.lt (fun e=>e4 e.symm)),fun e=>?_⟩;rcases hat with h5 | h5
  ·rw[h5] at e;exact e4 e
  ·rw[h5] at e;injection e with e
   have:=e3.lt;omega
theorem Bw{ops:Array Oper}{rest:List Oper}{o:Oper}{a:Act}{w2:World}{Q:Exit->Act->World->Prop} (hgd:o.guard=none) (s x:Operand) (tS tX:TypeId)
  (ho:o.op=.call { callee:=.builtin .append,args:=#[s,x],argTypes:=#[tS,tX] }) (v u r:Value) (hs:a.eval s=v) (hx:a.eval x=u) (hrun:(Builtin.append_ #[tS,tX] o.type #[v,u]).run Tryz.prog w=.ok r w2)
  (h:wpList Tryz.prog ops Q rest (a.put o.dst r) w2):wpList Tryz.prog ops Q (o :: rest) a w:=by
 refine wpList_plain hgd fun K hK=>?_;unfold Oper.wp;simp[execOp,ho,resolve,invoke,builtin,hs,hx,hrun,Result.andThen];exact hK _ _ h
theorem aCO (q n:Nat) (gs:List GatZ) (t:List Int) (m:Nat) (z D:List Int) (k:Nat):mkr q n gs t m z D (k+1)=mkr q n gs t m z D k++[tld q gs t m z (mks q n gs t m z D k).2]:=by
 unfold mkr;rw[List.range_succ,List.map_append];rfl
theorem Xj {q:Nat} (h3:3<=q) (h4:q<=2147483647) {n:Nat} {gs:List GatZ} {t:List Int} {m:Nat} {z D:List Int} (hD:Dig D):∀ k,Dig (mks q n gs t m z D k).1/\Fits (mks q n gs t m z D k).2
 | 0=>⟨hD,fun j hj=>by simp[mks] at hj⟩
 | k+1=>by have hd:=Gx h3 h4 n (mks q n gs t m z D k).1 (tld q gs t m z (mks q n gs t m z D k).2);exact⟨hd,yU (Xj h3 h4 hD k).2 (Tn (hd.2.all 0))⟩
theorem Tv (h3:3<=q) (h4:q<=2147483647) (gs:List GatZ) (t:List Int) (m:Nat) (z xs:List Int):Fits (tld q gs t m z xs):=fun j hj=>by
 unfold tld at hj ⊢;rw[kQ] at hj;rw[kZ _ _ _ hj];have:=Mg (n:=m) h3 gs t z (xs++[(j:Int)]);exact⟨by omega,by omega⟩
theorem Tw (h3:3<=q) (h4:q<=2147483647) (t x y:List Int) (m:Nat):Fits (lnz q t x y m):=fun j hj=>by
 unfold lnz at hj ⊢;rw[kQ] at hj;rw[kZ _ _ _ hj];have:=qQ (Sum.ext (zat t) (zat (onl q x y (j:Int))) m) q h3;exact⟨by omega,by omega⟩
theorem Tx (N0 N1 q n c b m cg cb cz:Nat) (ag ab az:Option Addr) (gs:List GatZ) (t:List Int) (s:GSt) (w:World) (hIT:InT q b w) (hbN:b<N0) (htN:1<N0) (hP:PCh N0 q n w c s.D) (hD:Dig s.D) (hm6:m<=6) (hg:LstG N0 w ag cg gs) (hgl:gs.length<=64) (ho:∀ k,k<gs.length->0<=(gat gs k).a/\0<=(gat gs k).b) (ht:t.length=2 ^ m) (ft:Fits t) (lt:Lst N1 w ab cb t) (hN1:N1<=c) (hz:s.z.length<=6) (fz:Fits s.z) (nz:NumL w az cz s.z) :
  Calls Tryz.prog 25 #[.agg #[.pointer (some ⟨b,0,none⟩),.slice ag gs.length cg,.int .i64 (m:Int)],.pointer (some ⟨c,0,none⟩),.slice ab t.length cb,.slice az s.z.length cz] w fun e w'=>∃ rv dv Lb Z,e=.returned (.tuple #[rv,.slice (some ⟨Lb,0,none⟩) (m+1) (m+1),.slice (some ⟨Z,0,none⟩) m m]) /\
   ShI w.heap.size w' rv dv (mkr q n gs t m s.z s.D (2*m)) (mks q n gs t m s.z s.D (2*m)).2/\(w.heap.size<=Lb/\dv.ownBlock≠some Lb/\ArrI w' Lb 3 (m+1) (zat (lnz q t ((mks q n gs t m s.z s.D (2*m)).2.take m) ((mks q n gs t m s.z s.D (2*m)).2.drop m) m))) /\
   (w.heap.size<=Z/\ArrI w' Z 3 m (zat (gnx q n m (mkr q n gs t m s.z s.D (2*m)) (lnz q t ((mks q n gs t m s.z s.D (2*m)).2.take m) ((mks q n gs t m s.z s.D (2*m)).2.drop m) m) s).z)) /\
   PCh N0 q n w' c (gnx q n m (mkr q n gs t m s.z s.D (2*m)) (lnz q t ((mks q n gs t m s.z s.D (2*m)).2.take m) ((mks q n gs t m s.z s.D (2*m)).2.drop m) m) s).D/\w.grownBy w' (some c):=by
 have h3:3<=q:=hIT.h3;have h4:q<=2147483647:=hIT.hm;have hp:w.cell? ⟨b,0,none⟩=some (.int .i64 q):=hIT.cell;have hcl:=hP.lt;have hcN:=hP.ge;obtain⟨ng,hng⟩:=exE (gs.length);rw[<- hng];obtain⟨W0,hW0⟩:=exE (w.alloc (.cells #[.pointer (some ⟨b,0,none⟩),.slice ag ng cg,.int .i64 (m:Int)] 84));obtain⟨hb0,hs0,hz0⟩:=qV hW0;obtain⟨G,hG⟩:=exE (w.heap.size);rw[<- hG] at hs0;have HGE:=hid hG;have HGW:Hid (∀ W,W0.grownBy W (some c)->w.grownBy W (some c)):=fun W hW=>qX (qJ hb0) hW
 have HCL:Hid (∀ W,W0.grownBy W (some c)->W.cell? ⟨G,0,none⟩=some (.pointer (some ⟨b,0,none⟩))/\W.cell? ⟨G,1,none⟩=some (.slice ag ng cg)/\W.cell? ⟨G,2,none⟩=some (.int .i64 (m:Int))):=fun W hW=>by have e:=(qY hW (Array.getElem?_eq_some_iff.1 hs0).1 (by omega)).trans hs0;exact⟨by simp[World.cell?,e],by simp[World.cell?,e],by simp[World.cell?,e]⟩
 have HBN:Hid (∀ W,W0.grownBy W (some c)->Below N0 w W):=fun W hW=>Bv (HGW.out W hW) hcN (by omega);have HB1:Hid (∀ W,W0.grownBy W (some c)->Below N1 w W):=fun W hW=>Bv (HGW.out W hW) hN1 (by omega);have HIT:Hid (∀ W,W0.grownBy W (some c)->InT q b W):=fun W hW=>hIT.upto (HBN.out W hW) hbN htN;have HNZ:Hid (∀ W,W0.grownBy W (some c)->NumL W az cz s.z):=fun W hW=>nz.other (HGW.out W hW) hP.notI;have HGS:Hid (∀ W,W0.grownBy W (some c)->LstG W.heap.size W ag cg gs):=fun W hW=>(hg.below (HBN.out W hW)).mono (by have:=hW.size;omega);have HLT:Hid (∀ W,W0.grownBy W (some c)->Lst W.heap.size W ab cb t):=fun W hW=>(lt.below (HB1.out W hW)).mono (by have:=hW.size;omega);have hcb:c<W0.heap.size:=by omega
 obtain⟨M,hM⟩:=exE (mks q n gs t m s.z s.D);obtain⟨RS,hRS⟩:=exE (mkr q n gs t m s.z s.D);have HMO:Hid (∀ k,Dig (M k).1/\Fits (M k).2/\(M k).2.length=k):=fun k=>by rw[hM];exact⟨(Xj h3 h4 hD k).1,(Xj h3 h4 hD k).2,Hb k⟩
 have HMS:Hid (∀ k,(M (k+1)).1=gan q n (M k).1 (tld q gs t m s.z (M k).2)/\(M (k+1)).2=(M k).2++[zat (M (k+1)).1 0]/\RS (k+1)=RS k++[tld q gs t m s.z (M k).2]):=fun k=>by rw[hM,hRS];exact⟨rfl,rfl,aCO _ _ _ _ _ _ _ _⟩
 have HRL:Hid (∀ k,(RS k).length=k):=fun k=>by rw[hRS];exact Qq _ _ _ _ _ _ _ _
 obtain⟨nt,hnt⟩:=exE (t.length);obtain⟨nzz,hnz⟩:=exE (s.z.length)
 have HRD:Hid (∀ W ad cd k,k<2*m->W0.grownBy W (some c)->Lst W.heap.size W ad cd (M k).2->Calls Tryz.prog 59 #[.agg #[.pointer (some ⟨b,0,none⟩),.slice ag ng cg,.int .i64 (m:Int)],.slice ab nt cb,.slice az nzz cz,.slice ad k cd] W fun e w'=>∃ O,e=.returned (.slice (some ⟨O,0,none⟩) 3 3)/\W.heap.size<=O/\ArrI w' O 3 3 (zat (tld q gs t m s.z (M k).2))/\Below W.heap.size W w'):=fun W ad cd k hk hW hla=>by have h:=Tt q b m cg cb cz cd ag ab az ad gs t s.z (M k).2 W (HIT.out W hW) hm6 ht hgl (HGS.out W hW) ho (by omega) (by rw[(HMO.out k).2.2];omega) ft fz (HMO.out k).2.1 (HLT.out W hW) (HNZ.out W hW).1.row hla;rw[(HMO.out k).2.2,<- hng,<- hnt,<- hnz] at h;exact h
 have HANK:Hid (∀ W O k,PCh N0 q n W c (M k).1->ArrI W O 3 3 (zat (tld q gs t m s.z (M k).2))->Calls Tryz.prog 60 #[.pointer (some ⟨c,0,none⟩),.slice (some ⟨O,0,none⟩) 3 3] W fun e w'=>e=.returned (.int .i64 (zat (M (k+1)).1 0))/\PCh N0 q n w' c (M (k+1)).1/\W.grownBy w' (some c)):=fun W O k hp hA=>by have hll:(tld q gs t m s.z (M k).2).length=3:=kQ _ _;have h:=Db N0 q n c 3 (some ⟨O,0,none⟩) (tld q gs t m s.z (M k).2) (M k).1 W h3 h4 hp (HMO.out k).1 (by omega) (Tv h3 h4 _ _ _ _ _) (Cx hA hll).1;rw[hll,<- (HMS.out k).1] at h;exact h
 have HP0:Hid (PCh N0 q n W0 c (M 0).1):=by rw[hM];exact hP.below hb0
 have HS0:Hid (ShI W0.heap.size W0 (.slice none 0 0) (.slice none 0 0) (RS 0) (M 0).2):=by rw[hM,hRS];exact⟨⟨[],World.ownsRow_nil _ _ _ _,fun j hj=>by simp[mkr] at hj⟩,World.ownsRow_nil _ _ _ _⟩
 have HZ0:Hid (W0.heap.size=w.heap.size+1):=hz0;have hw2:IntKind.i64.wrap (2*(m:Int))=2*(m:Int):=by rw[IntKind.wrap_i64];omega
 have HW0:=hid hW0;have HTL:Hid (t.length=2 ^ m/\Fits t/\nt=t.length):=⟨ht,ft,hnt⟩
 have HMG:Hid (∀ k,gds q n (RS k) s.D k=(M k).1/\gxs q n (RS k) s.D k=(M k).2):=fun k=>by rw[hM,hRS];exact Ke k (Nat.le_refl _)
 rw[<- hM,<- hRS,<- hnt,<- hnz];clear hP hD hg ho ft lt nz fz hng hnt hnz hs0 hb0 hz0 hG hW0 hp hIT ht hz hM hRS;go_enter Tryz.func25,Tryz.ntmps25;go_wp2_with fail;rw[<- HGE.out,<- HW0.out];go_loopw [8,11,12,18] (fun rv dv _ iv wr=>∃ k:Nat,k<=2*m/\iv=.int .i64 (k:Int)/\Hid (ShI W0.heap.size wr rv dv (RS k) (M k).2/\PCh N0 q n wr c (M k).1/\W0.grownBy wr (some c))) (fun _ _ _ iv _=>2*m-(intOf iv).toNat)
 case atStart=>exact⟨0,Nat.zero_le _,rfl,HS0.out,HP0.out,yZ _ _⟩
 case round =>
  obtain⟨k,hk,rfl,hI⟩:=hrel;obtain⟨hS,hPk,hGk⟩:=hI.out;by_cases hlt:k<2*m
  ·have hlt2:(k:Int)<2*(m:Int):=by omega
   have hks:IntKind.i64.wrap ((k:Int)+1)=(k:Int)+1:=by rw[IntKind.wrap_i64];omega
   obtain⟨ad,cd,hdv,hld⟩:=kY hS.drw;rw[(HMO.out k).2.2] at hdv;have HRX:=hid (HRD.out wr ad cd k hlt hGk hld);obtain⟨k0,k1,k2⟩:=HCL.out wr hGk;have HS:=hid hS;have HPK:=hid hPk;have HGK:=hid hGk;subst hdv;clear hI hS hPk hGk hld;go_wp2_with fail;refine HRX.out.mono ?_;rintro e w3 ⟨O,rfl,hO3,hA3,hb3⟩;have HG3:Hid (W0.grownBy w3 (some c)):=qX HGK.out (qJ hb3);have HGA:Hid (W0.grownBy (w3.alloc (.cells #[.slice (some ⟨O,0,none⟩) 3 3] 25)) (some c)):=qX HG3.out (qJ ((Below.refl _ _).alloc (Nat.le_refl _) _));have hSA:=(HS.out.below hb3).below ((Below.refl w3.heap.size w3).alloc (Nat.le_refl _) (.cells #[.slice (some ⟨O,0,none⟩) 3 3] 25));have hPA:=(HPK.out.below hb3).below ((Below.refl w3.heap.size w3).alloc (Nat.le_refl _) (.cells #[.slice (some ⟨O,0,none⟩) 3 3] 25));have hAA:ArrI (w3.alloc (.cells #[.slice (some ⟨O,0,none⟩) 3 3] 25)) O 3 3 (zat (tld q gs t m s.z (M k).2)):=hA3.below ((Below.refl w3.heap.size w3).alloc (Nat.le_refl _) _) (by exact hA3.lt);have hbO:W0.heap.size<=O:=by have:=HGK.out.size;omega
   have hdO:(Value.slice ad k cd).ownBlock≠some O:=fun e=>by have:=(HS.out.drw.lt O e).2;omega
   obtain⟨v5,w5,hrun,hS5,hA5,hb5⟩:=hSA.push (X:=w3.heap.size) (heap_alloc_new w3 _) hAA hbO hdO (by rw[HRL.out];omega) HGA.out.size;rw[<- (HMS.out k).2.2] at hS5;have HG5:Hid (W0.grownBy w5 (some c)):=Me HGA.out hb5;have hP5:PCh N0 q n w5 c (M k).1:=hPA.blocks (hb5.block c hcb) (fun x hx=>hb5.block x (by omega));have HAX:=hid (HANK.out w5 O k hP5 hA5);have HS5:=hid hS5;clear hO3 hA3 hb3 hSA hPA hAA hdO hS5 hA5 hb5 hP5 HRX k0 k1 k2;go_wp2_with (at_builtin;refine Bw rfl _ _ 36 36 rfl _ _ v5 rfl rfl hrun ?_);clear hrun;go_wp2_with fail;refine HAX.out.mono ?_;rintro e w6 ⟨rfl,hp6,hg6⟩;have HG6:Hid (W0.grownBy w6 (some c)):=qX HG5.out hg6;obtain⟨y,hy⟩:=exE (zat (M (k+1)).1 0);rw[<- hy];have HGB:Hid (W0.grownBy (w6.alloc (.cells #[.int .i64 y] 3)) (some c)):=qX HG6.out (qJ ((Below.refl _ _).alloc (Nat.le_refl _) _));have hSB:=(HS5.out.grown hg6 hcb).below ((Below.refl w6.heap.size w6).alloc (Nat.le_refl _) (.cells #[.int .i64 y] 3));have hPB:=hp6.below ((Below.refl w6.heap.size w6).alloc (Nat.le_refl _) (.cells #[.int .i64 y] 3));obtain⟨v7,w7,hrun,hS7,hb7⟩:=hSB.draw (g:=w6.heap.size) (y:=y) (zQ w6 #[.int .i64 y] 3 0 (.int .i64 y) rfl) (by rw[(HMO.out k).2.2];omega) HGB.out.size;rw[hy,<- (HMS.out k).2.1] at hS7;have HE7:Hid (ShI W0.heap.size w7 v5 v7 (RS (k+1)) (M (k+1)).2/\PCh N0 q n w7 c (M (k+1)).1/\W0.grownBy w7 (some c)):=⟨hS7,hPB.blocks (hb7.block c hcb) (fun x hx=>hb7.block x (by omega)),Me HGB.out hb7⟩
   clear hp6 hg6 hSB hPB hS7 hb7 hy HAX HS5;go_wp2_with (at_builtin;refine Bw rfl _ _ 25 25 rfl _ _ v7 rfl rfl hrun ?_);clear hrun;go_wp2_with fail;go_roundw
   case rel=>exact⟨k+1,by omega,by go_num,HE7⟩
   case measure=>simp[intOf];omega
  ·have hk2:k=2*m:=by omega
   have hlt2:¬ (k:Int)<2*(m:Int):=by omega
   rw[hk2] at hS hPk;obtain⟨ad,cd,hdv,hnd⟩:=Gv hS.drw;rw[(HMO.out (2*m)).2.2] at hdv;subst hdv;have HS:=hid hS;have HPK:=hid hPk;have HGK:=hid hGk;obtain⟨X,hX⟩:=exE ((M (2*m)).2);have hXl:X.length=2*m:=by rw[hX];exact (HMO.out _).2.2
   have hXf:Fits X:=by rw[hX];exact (HMO.out _).2.1
   rw[<- hX] at hnd;have hcapd:2*m<=cd:=by have:=hnd.1.room;omega
   have htl:(X.take m).length=m:=by rw[List.length_take];omega
   have hdl:(X.drop m).length=m:=by rw[List.length_drop];omega
   have HND:Hid (∀ W,wr.grownBy W (some c)->NumL W ad cd X):=fun W hW=>hnd.other hW HPK.out.notI;have HROW:Hid (∀ W,wr.grownBy W (some c)->RowB W.heap.size W ad (X.take m)/\RowB W.heap.size W (adS ad cd m) (X.drop m)):=fun W hW=>⟨Lw (HND.out W hW).1.row,Ql (HND.out W hW).1.row (by have:=(HND.out W hW).1.room;omega)⟩
   have HG2W:Hid (∀ W,wr.grownBy W (some c)->W0.grownBy W (some c)):=fun W hW=>qX HGK.out hW;obtain⟨line,hline⟩:=exE (lnz q t (X.take m) (X.drop m) m)
   have HLNX:Hid (∀ W,wr.grownBy W (some c)->Calls Tryz.prog 61 #[.agg #[.pointer (some ⟨b,0,none⟩),.slice ag ng cg,.int .i64 (m:Int)],.slice ab nt cb,.slice ad m cd,.slice (adS ad cd m) m (cd-m)] W fun e w'=>∃ O,e=.returned (.slice (some ⟨O,0,none⟩) (m+1) (m+1))/\W.heap.size<=O/\ArrI w' O 3 (m+1) (zat line)/\Below W.heap.size W w'):=fun W hW=>by have h:=Xg q b m cg cb cd (cd-m) ag ab ad (adS ad cd m) ng t (X.take m) (X.drop m) W (HIT.out W (HG2W.out W hW)) hm6 HTL.out.1 htl hdl HTL.out.2.1 (Cs m hXf) (Ct m hXf) (HLT.out W (HG2W.out W hW)) (HROW.out W hW).1 (HROW.out W hW).2;rw[<- HTL.out.2.2] at h;rw[hline];exact h
   have hll:line.length=m+1:=by rw[hline];exact Ha _ _ _ _ _
   obtain⟨D5,hD5⟩:=exE (gan q n (M (2*m)).1 line)
   have HANX:Hid (∀ W Lb,PCh N0 q n W c (M (2*m)).1->ArrI W Lb 3 (m+1) (zat line)->Calls Tryz.prog 60 #[.pointer (some ⟨c,0,none⟩),.slice (some ⟨Lb,0,none⟩) (m+1) (m+1)] W fun e w'=>e=.returned (.int .i64 (zat D5 0))/\PCh N0 q n w' c D5/\W.grownBy w' (some c)):=fun W Lb hp hA=>by have h:=Db N0 q n c (m+1) (some ⟨Lb,0,none⟩) line (M (2*m)).1 W h3 h4 hp (HMO.out _).1 (by omega) (by rw[hline];exact Tw h3 h4 _ _ _ _) (Cx hA hll).1;rw[hll,<- hD5] at h;exact h
   have HRB1:Hid (Bz (zat D5 0)):=by rw[hD5];exact (Gx h3 h4 n (M (2*m)).1 line).2.all 0
   obtain⟨tt,htt⟩:=exE (zat D5 0);rw[<- htt] at HANX HRB1
   have HBT0:Hid (∀ W,wr.grownBy W (some c)->Calls Tryz.prog 62 #[.agg #[.pointer (some ⟨b,0,none⟩),.slice ag ng cg,.int .i64 (m:Int)],.slice ad m cd,.slice (adS ad cd m) m (cd-m),.int .i64 tt] W fun e w'=>∃ O,e=.returned (.slice (some ⟨O,0,none⟩) m m)/\W.heap.size<=O/\ArrI w' O 3 m (zat (onl q (X.take m) (X.drop m) tt))/\Below W.heap.size W w'):=fun W hW=>by have h:=Dy q b cd (cd-m) (.slice ag ng cg) (.int .i64 (m:Int)) ad (adS ad cd m) (X.take m) (X.drop m) tt W h3 h4 (HIT.out W (HG2W.out W hW)).cell (by omega) (by omega) (Cs m hXf) (Ct m hXf) HRB1.out (HROW.out W hW).1 (HROW.out W hW).2;rw[htl,hdl] at h;exact h
   have HGN:Hid (gnx q n m (RS (2*m)) line s=⟨D5,onl q (X.take m) (X.drop m) tt,atz q line tt⟩):=by unfold Hid gnx;rw[htt,hD5,hX,(HMG.out (2*m)).1,(HMG.out (2*m)).2]
   have HADS:Hid (adS ad cd m=(if cd=m then ad else ad.map fun x=>x.add m)):=rfl;obtain⟨AY,hAY⟩:=exE (adS ad cd m);rw[<- hAY] at HLNX HBT0 HADS;obtain⟨ZZ,hZZ⟩:=exE (onl q (X.take m) (X.drop m) tt);rw[<- hZZ] at HBT0 HGN;have HLE:Hid (lnz q t ((M (2*m)).2.take m) ((M (2*m)).2.drop m) m=line):=by unfold Hid;rw[hline,hX]
   have HXE:Hid ((M (2*m)).2=X):=hX.symm;have hcm:(m:Int)<=(cd:Int):=by omega
   have hmz:(0:Int)<=(m:Int):=by omega
   obtain⟨m2,hm2⟩:=exE (2*m);have hcm2:(m:Int)<=(m2:Int):=by omega
   have HM2:Hid (m2-m=m):=by unfold Hid;omega
   have hcm3:m<=m2:=by omega
   have hcm4:m2<=cd:=by omega
   have HME:Hid (2*m=m2):=hm2.symm;have HGD0:Hid (wr.grownBy wr.drew (some c)):=qJ (Below.refl _ _).drew;have HGD:Hid (W0.grownBy wr.drew (some c)):=HG2W.out _ HGD0.out;obtain⟨nl,hnl⟩:=exE (m+1);have HNL:=hid hnl;rw[<- hnl] at HLNX HANX;have HLNY:=hid (HLNX.out wr.drew HGD0.out);rw[<- hm2];clear hI hS hPk hGk hnd hX hXl hXf hcapd htl hdl hline hll hD5 htt hAY hZZ hm2 hnl HND HLNX;go_wp2_with fail;refine wp_region_held_drew (S:=fun W=>(W.cell? ⟨G,0,none⟩=some (.pointer (some ⟨b,0,none⟩))/\W.cell? ⟨G,1,none⟩=some (.slice ag ng cg)/\W.cell? ⟨G,2,none⟩=some (.int .i64 (m:Int)))) (by kernel_rfl) (HCL.out _ HGD.out) (fun hHeld=>?_);refine Aa 0 (.slice ad m2 cd) ?_;simp only[Ac];refine Aa 1 (.pointer (some ⟨G,2,none⟩)) ?_;simp only[Ac];refine Aa 2 (.int .i64 (m:Int)) ?_;simp only[Ac];refine Aa 3 (.slice ad m cd) ?_;simp only[Ac];refine Aa 4 (.slice ad m2 cd) ?_;simp only[Ac];refine Aa 5 (.pointer (some ⟨G,2,none⟩)) ?_;simp only[Ac];refine Aa 6 (.int .i64 (m:Int)) ?_;simp only[Ac];refine tkU 7 (.slice AY (m2-m) (cd-m)) rfl (fun W hC=>by rw[HADS.out];go_simp) hHeld ?_;simp only[Ac];refine Aa 8 (.slice ad m cd) ?_;simp only[Ac];refine Aa 9 (.slice AY (m2-m) (cd-m)) ?_;simp only[Ac];refine wpAnyH_done (by kernel_rfl) ?_ _;rw[HM2.out];have HSD:=hid (HS.out.below (Below.refl wr.heap.size wr).drew);have HPD:=hid (HPK.out.below (Below.refl wr.heap.size wr).drew);obtain⟨k0,k1,k2⟩:=HCL.out wr.drew HGD.out;have HOD:Hid (∀ g,(Value.slice ad m2 cd).ownBlock=some g->g<wr.drew.heap.size):=fun g hg=>(HS.out.drw.lt g (by rw[HME.out];exact hg)).2;generalize wr.drew=WD at *;clear HS HPK;go_wp2_with fail;refine HLNY.out.mono ?_;rintro e w5 ⟨Lb,rfl,hL5,hA5,hb5⟩;have HG5:Hid (wr.grownBy w5 (some c)):=qX HGD0.out (qJ hb5);have HS5:=hid (HSD.out.below hb5);have HP5:=hid (HPD.out.below hb5);have HA5:=hid hA5;have HLB:Hid (wr.heap.size<=Lb/\(Value.slice ad m2 cd).ownBlock≠some Lb):=⟨by have:=HGD0.out.size;omega,fun e=>by have:=HOD.out Lb e;omega⟩
   have HGD1:Hid (wr.grownBy w5.drew (some c)):=qX HG5.out (qJ (Below.refl _ _).drew);have HGDX:Hid (W0.grownBy w5.drew (some c)):=HG2W.out _ HGD1.out;have HAN:=hid (HANX.out w5.drew Lb (HP5.out.below (Below.refl _ _).drew) (hA5.below ((Below.refl _ _).drew (w:=w5)) (by exact hA5.lt)));clear hL5 hA5 hb5 HLNY HSD HPD HGD HGD0 k0 k1 k2 HANX HOD;go_wp2_with fail;refine wp_region_held_drew (S:=fun W=>(W.cell? ⟨G,0,none⟩=some (.pointer (some ⟨b,0,none⟩))/\W.cell? ⟨G,1,none⟩=some (.slice ag ng cg)/\W.cell? ⟨G,2,none⟩=some (.int .i64 (m:Int)))) (by kernel_rfl) (HCL.out _ HGDX.out) (fun hHeld=>?_);refine Aa 0 (u8) ?_;simp only[Ac];refine Aa 1 (.slice (some ⟨Lb,0,none⟩) nl nl) ?_;simp only[Ac];refine Aa 2 (.agg #[.pointer (some ⟨b,0,none⟩),.slice ag ng cg,.int .i64 (m:Int)]) ?_;simp only[Ac];refine Aa 3 (.slice ad m cd) ?_;simp only[Ac];refine Aa 4 (.slice AY m (cd-m)) ?_;simp only[Ac];refine Aa 5 (.pointer (some ⟨c,0,none⟩)) ?_;simp only[Ac];refine Aa 6 (.slice (some ⟨Lb,0,none⟩) nl nl) ?_;simp only[Ac];refine Ab 7 fun K' hK'=>?_;go_simp;refine (HAN.out).mono ?_;rintro e w6 ⟨rfl,hp6,hg6⟩;have HG6:Hid (W0.grownBy w6 (some c)):=qX HGDX.out hg6;have HGR6:Hid (wr.grownBy w6 (some c)):=qX HGD1.out hg6;have HGA6:Hid (w5.grownBy w6 (some c)):=qX (qJ (Below.refl _ _).drew) hg6;have HP6:=hid hp6;have HBTX:=hid (HBT0.out w6 HGR6.out);clear hp6 hg6;refine hK'.out _ _ (HCL.out _ HG6.out) (fun hHeld=>?_);clear hK' K';refine Ab 8 fun K' hK'=>?_;go_simp;refine (HBTX.out).mono ?_;rintro e w7 ⟨Z,rfl,hZ7,hA7,hb7⟩;have HGA7:Hid (w5.grownBy w7 (some c)):=qX HGA6.out (qJ hb7);have HG7:Hid (W0.grownBy w7 (some c)):=qX HG6.out (qJ hb7);have HGR7:Hid (wr.grownBy w7 (some c)):=qX HGR6.out (qJ hb7);have HP7:=hid (HP6.out.below hb7);have HA7:=hid hA7;have HZ7:=hid hZ7;clear hb7 hA7 hZ7;refine hK'.out _ _ (HCL.out _ HG7.out) (fun hHeld=>?_);clear hK' K';refine Aa 9 (u8) ?_;simp only[Ac];refine Aa 10 (.slice (some ⟨Lb,0,none⟩) nl nl) ?_;simp only[Ac];refine Aa 11 (.slice (some ⟨Z,0,none⟩) m m) ?_;simp only[Ac];refine wpAnyH_done (by kernel_rfl) ?_ _;have hcr:c<W0.heap.size:=hcb;have hsz0:W0.heap.size<=wr.heap.size:=HGK.out.size;have HF:Hid (ShI W0.heap.size w7 u8 (.slice ad (2*m) cd) (RS (2*m)) (M (2*m)).2/\ArrI w7 Lb 3 nl (zat line)):=⟨HS5.out.grown HGA7.out hcr,HA5.out.block (qY HGA7.out HA5.out.lt (by have:=HLB.out.1;omega))⟩
   have HZW:Hid (w.heap.size<=Z/\w.heap.size<=Lb):=by have h1:=HZ7.out;have h2:=HGA6.out.size;have h3:=HG5.out.size;have h4:=HLB.out.1;have h5:=HZ0.out;exact⟨by omega,by omega⟩
   have HW7:Hid (w.grownBy w7 (some c)):=HGW.out _ HG7.out;clear HS5 HA5 HGR6 HGR7 HGA6 HGA7 HAN HBTX;go_wp2_with fail;go_ret3;refine⟨u8,.slice ad (2*m) cd,Lb,Z,?_,HF.out.1.mono (by have:=HZ0.out;omega),⟨HZW.out.2,?_,?_⟩,⟨HZW.out.1,?_⟩,?_,HW7.out⟩
   ·rw[<- HNL.out];rfl
   ·rw[HME.out];exact HLB.out.2
   ·rw[HLE.out,<- HNL.out];exact HF.out.2
   ·rw[HLE.out,HGN.out];exact HA7.out
   ·rw[HLE.out,HGN.out];exact HP7.out
theorem Tryz.infoSl2:(Tryz.prog.info? 36).map (fun i=>(i.zero,i.size,i.bytes))=some (some (.slice none 0 0),1,24):=by kernel_rfl
def KJ (w w':World):Prop:=w.heap.size<=w'.heap.size/\∀ (b:Nat) (cs:Array Value) (t:TypeId) (f:Nat × Nat),w.heap[b]?=some (.cells cs t f)->(t=3∨t=25)->w'.heap[b]?=w.heap[b]?
theorem KJ.below (e:Below w.heap.size w w'):KJ w w':=⟨e.size,fun b _ _ _ h _=>e.block b (Array.getElem?_eq_some_iff.1 h).1⟩
theorem KJ.other{x:Nat}{c:Array Value}{t:TypeId}{f:Nat × Nat} (e:w.grownBy w' (some x)) (hx:w.heap[x]?=some (.cells c t f)) (h1:t≠3) (h2:t≠25):KJ w w' :=
 ⟨e.size,fun b cs t' f' hb ht=>qY e (Array.getElem?_eq_some_iff.1 hb).1 (fun he=>by
  rw[he,hx] at hb;simp at hb;rcases ht with h | h
  ·exact h1 (hb.2.1.trans h)
  ·exact h2 (hb.2.1.trans h))⟩
theorem KJ.arr (k:KJ w w') {g n:Nat} {f:Nat->Int} (h:ArrI w g 3 n f):ArrI w' g 3 n f:=h.block (k.2 g _ _ _ h.heap (.inl rfl))
theorem KJ.own (k:KJ w w') {base n:Nat} {v:Value} {xs:List Value} (h:w.ownsRow base 25 1 v n xs):w'.ownsRow base 25 1 v n xs:=by
 refine⟨h.1,?_⟩;rcases h.2 with hn | ⟨g,cap,cur,rfl,hb,hg,rest⟩
 ·exact .inl hn
 ·exact .inr ⟨g,cap,cur,rfl,hb,(k.2 g _ _ _ hg (.inr rfl)).trans hg,rest⟩
structure LyI (base:Nat) (w:World) (lv u:Value) (rs:List (List Int)):Prop where
 own:∃ vals:List Value,w.ownsRow base 25 1 u rs.length vals/\∀ j,j<rs.length->∃ g,vals[j]?=some (.slice (some ⟨g,0,none⟩) 3 3)/\ArrI w g 3 3 (zat (rat rs j))
 apart:∀ g,u.ownBlock=some g->lv.ownBlock≠some g
theorem LyI.kj (h:LyI base w lv u rs) (k:KJ w w'):LyI base w' lv u rs:=by
 obtain⟨vals,h1,h2⟩:=h.own;refine⟨⟨vals,k.own h1,fun j hj=>?_⟩,h.apart⟩;obtain⟨g,e1,e2⟩:=h2 j hj;exact⟨g,e1,k.arr e2⟩
structure MkG (base:Nat) (w:World) (rv lv:Value) (Rs:List (List (List Int))) (Ls:List (List Int)):Prop where
 rds:∃ vals:List Value,w.ownsRow base 36 1 rv Rs.length vals/\∀ j,j<Rs.length->∃ u,vals[j]?=some u/\u.oneCell'=true/\LyI base w lv u (rrt Rs j)
 lns:∃ vals:List Value,w.ownsRow base 25 1 lv Ls.length vals/\∀ j,j<Ls.length->∃ g,vals[j]?=some (.slice (some ⟨g,0,none⟩) (rat Ls j).length (rat Ls j).length)/\ArrI w g 3 (rat Ls j).length (zat (rat Ls j))
theorem MkG.grown{Rs:List (List (List Int))} (h:MkG base w rv lv Rs Ls) (e:w.grownBy w' (some c)) (hc:c<base) (k:KJ w w'):MkG base w' rv lv Rs Ls:=by
 obtain⟨vals,h1,h2⟩:=h.rds;obtain⟨vl,l1,l2⟩:=h.lns;refine⟨⟨vals,h1.kept (row:=some c) e ?_,fun j hj=>?_⟩,⟨vl,k.own l1,fun j hj=>?_⟩⟩
 ·cases hv:rv.ownBlock with
  | none=>simp
  | some g=>have:=(h1.lt g hv).1;simp;omega
 ·obtain⟨u,e1,e2,e3⟩:=h2 j hj;exact⟨u,e1,e2,e3.kj k⟩
 ·obtain⟨g,e1,e2⟩:=l2 j hj;exact⟨g,e1,k.arr e2⟩
theorem MkG.below{Rs:List (List (List Int))} (h:MkG base w rv lv Rs Ls) (e:Below w.heap.size w w'):MkG base w' rv lv Rs Ls:=by
 obtain⟨vals,h1,h2⟩:=h.rds;obtain⟨vl,l1,l2⟩:=h.lns;refine⟨⟨vals,xV h1 e,fun j hj=>?_⟩,⟨vl,xV l1 e,fun j hj=>?_⟩⟩
 ·obtain⟨u,e1,e2,e3⟩:=h2 j hj;exact⟨u,e1,e2,e3.kj (KJ.below e)⟩
 ·obtain⟨g,e1,e2⟩:=l2 j hj;exact⟨g,e1,(KJ.below e).arr e2⟩
theorem aEx (Rs:List (List (List Int))) (r:List (List Int)) (j:Nat):rrt (Rs++[r]) j=if j<Rs.length then rrt Rs j else if j=Rs.length then r else []:=by
 unfold rrt;rw[List.getD_eq_getElem?_getD,List.getD_eq_getElem?_getD];by_cases h:j<Rs.length
 ·rw[if_pos h,List.getElem?_append_left h]
 ·rw[if_neg h,List.getElem?_append_right (by omega)];by_cases e:j=Rs.length
  ·rw[if_pos e,e,Nat.sub_self];rfl
  ·rw[if_neg e,List.getElem?_eq_none (by simp;omega)];rfl
theorem MkG.pushR{Rs:List (List (List Int))} (h:MkG base W rv lv Rs Ls) (hX:W.heap[X]?=some (.cells #[u] 36 (0,0))) (hu:u.oneCell'=true) (hl:LyI base W lv u r) (hlen:Rs.length<=1000000) (hbase:base<=W.heap.size) :
  ∃ v' w5,(Builtin.append_ #[39,39] 39 #[rv,.slice (some ⟨X,0,none⟩) 1 1]).run Tryz.prog W=.ok v' w5/\MkG base w5 v' lv (Rs++[r]) Ls/\W.grownBy w5 rv.ownBlock/\KJ W w5/\(∃ a c,v'=.slice a (Rs.length+1) c)/\Below base W w5:=by
 obtain⟨i0,hi,hz0,hz1,hz2⟩:=info_parts Tryz.infoSl2;obtain⟨vals,h1,h2⟩:=h.rds;obtain⟨vl,l1,l2⟩:=h.lns;have hvl:vals.length=Rs.length:=by have:=h1.1;omega
 obtain⟨v',w5,hrun,hown2,hgrow,_,_⟩:=run_append_own_at W base 39 39 36 i0 _ 1 24 Tryz.underlying39 hi hz0 hz1 hz2 rfl (by decide) rv _ _ h1 ⟨X,0,none⟩ 1 1 [u] rfl (by
  intro j t hj
  match j,hj with
  | 0,hj=>simp at hj;subst hj;simp[Addr.add,World.cell?,hX]) (by intro t ht;simp at ht;subst ht;exact hu) (by unfold maxLen;omega) (by omega) hbase
 have hk:KJ W w5:=⟨hgrow.size,fun b cs t f hb ht=>hgrow.block b (Array.getElem?_eq_some_iff.1 hb).1 (fun e=>by
  obtain⟨c,f',hg⟩:=Al h1 b e.symm;rw[hb] at hg;simp at hg;rcases ht with h | h
  ·rw[h] at hg;exact absurd hg.2.1 (by decide)
  ·rw[h] at hg;exact absurd hg.2.1 (by decide))⟩
 refine⟨v',w5,hrun,⟨⟨vals++[u],by rw[List.length_append];exact hown2,fun j hj=>?_⟩,⟨vl,hk.own l1,fun j hj=>?_⟩⟩,hgrow,hk,?_,(Below.refl base W).grown hgrow hbase (fun k hk=>(h1.lt k hk).1)⟩
 ·rw[List.length_append] at hj;rw[aEx];by_cases hjr:j<Rs.length
  ·rw[if_pos hjr,List.getElem?_append_left (by omega)];obtain⟨u',e1,e2,e3⟩:=h2 j hjr;exact⟨u',e1,e2,e3.kj hk⟩
  ·obtain e:j=Rs.length:=by simp at hj;omega
   rw[if_neg hjr,if_pos e,List.getElem?_append_right (by omega),hvl,e,Nat.sub_self];exact⟨u,rfl,hu,hl.kj hk⟩
 ·obtain⟨g,e1,e2⟩:=l2 j hj;exact⟨g,e1,hk.arr e2⟩
 ·rcases hown2.2 with ⟨e,h0⟩ | ⟨g,cap,cur,e,_⟩
  ·simp at h0
  ·exact⟨_,_,e⟩
theorem MkG.pushL{Rs:List (List (List Int))} (h:MkG base W rv lv Rs Ls) (hX:W.heap[X]?=some (.cells #[.slice (some ⟨g,0,none⟩) l.length l.length] 25 (0,0))) (hA:ArrI W g 3 l.length (zat l)) (hlen:Ls.length<=1000000) (hbase:base<=W.heap.size) :
  ∃ v' w5,(Builtin.append_ #[36,36] 36 #[lv,.slice (some ⟨X,0,none⟩) 1 1]).run Tryz.prog W=.ok v' w5/\MkG base w5 rv v' Rs (Ls++[l])/\W.grownBy w5 lv.ownBlock/\(∀ (b:Nat) (cs:Array Value) (f:Nat × Nat),W.heap[b]?=some (.cells cs 3 f)->w5.heap[b]?=W.heap[b]?)/\(∃ a c,v'=.slice a (Ls.length+1) c)/\Below base W w5:=by
 obtain⟨i0,hi,hz0,hz1,hz2⟩:=info_parts Tryz.infoSl;obtain⟨vals,h1,h2⟩:=h.rds;obtain⟨vl,l1,l2⟩:=h.lns;have hvl:vl.length=Ls.length:=by have:=l1.1;omega
 obtain⟨v',w5,hrun,hown2,hgrow,_,hat⟩:=run_append_own_at W base 36 36 25 i0 _ 1 24 Tryz.underlying36 hi hz0 hz1 hz2 rfl (by decide) lv _ _ l1 ⟨X,0,none⟩ 1 1 [.slice (some ⟨g,0,none⟩) l.length l.length] rfl (by
  intro j t hj
  match j,hj with
  | 0,hj=>simp at hj;subst hj;simp[Addr.add,World.cell?,hX]) (by intro t ht;simp at ht;subst ht;rfl) (by unfold maxLen;omega) (by omega) hbase
 have hI:∀ (b n:Nat) (f:Nat->Int),ArrI W b 3 n f->ArrI w5 b 3 n f:=fun b n f ha=>ha.block (hgrow.block b ha.lt (fun e=>by
  obtain⟨c,f',hg⟩:=Al l1 b e.symm;rw[ha.heap] at hg
  simp at hg))
 have hL:∀ (u:Value) (rs:List (List Int)),LyI base W lv u rs->LyI base w5 v' u rs:=fun u rs hu=>by
  obtain⟨vs,g1,g2⟩:=hu.own;refine⟨⟨vs,g1.kept hgrow ?_,fun j hj=>?_⟩,fun k hk e=>?_⟩
  ·cases hv:u.ownBlock with
   | none=>simp
   | some k=>exact Or.inr (fun e=>hu.apart k hv e.symm)
  ·obtain⟨k,e1,e2⟩:=g2 j hj;exact⟨k,e1,hI _ _ _ e2⟩
  ·rcases hat with h5 | h5
   ·rw[h5] at e;exact hu.apart k hk e
   ·rw[h5] at e;injection e with e
    have:=(g1.lt k hk).2;omega
 refine⟨v',w5,hrun,⟨⟨vals,h1.kept hgrow ?_,fun j hj=>?_⟩,⟨vl++[.slice (some ⟨g,0,none⟩) l.length l.length],by rw[List.length_append];exact hown2,fun j hj=>?_⟩⟩,hgrow,fun b cs f hb=>hgrow.block b (Array.getElem?_eq_some_iff.1 hb).1 (fun e=>by
  obtain⟨c,f',hg⟩:=Al l1 b e.symm;rw[hb] at hg
  simp at hg),?_,(Below.refl base W).grown hgrow hbase (fun k hk=>(l1.lt k hk).1)⟩
 ·cases hv:rv.ownBlock with
  | none=>simp
  | some k =>
   refine Or.inr (fun e=>?_);obtain⟨c,f,hg⟩:=Al h1 k hv;obtain⟨c',f',hg'⟩:=Al l1 k e.symm;rw[hg] at hg';simp at hg'
 ·obtain⟨u,e1,e2,e3⟩:=h2 j hj;exact⟨u,e1,e2,hL u _ e3⟩
 ·rw[List.length_append] at hj;rw[Hp Ls [l] j];by_cases hjr:j<Ls.length
  ·rw[if_pos hjr,List.getElem?_append_left (by omega)];obtain⟨k,e1,e2⟩:=l2 j hjr;exact⟨k,e1,hI _ _ _ e2⟩
  ·rw[if_neg hjr,List.getElem?_append_right (by omega),hvl];obtain e:j=Ls.length:=by simp at hj;omega
   subst e;rw[Nat.sub_self];exact⟨g,rfl,hI _ _ _ hA⟩
 ·rcases hown2.2 with ⟨e,h0⟩ | ⟨g,cap,cur,e,_⟩
  ·simp at h0
  ·exact⟨_,_,e⟩
theorem ShI.lyI (h:ShI B w rv dv rs xs) (hb:base<=B) (hl:∀ g,lv.ownBlock=some g->g<B):LyI base w lv rv rs:=by
 obtain⟨vals,h1,h2⟩:=h.rds;refine⟨⟨vals,h1.mono hb,fun j hj=>?_⟩,fun g hg e=>?_⟩
 ·obtain⟨g,e1,_,e3,_⟩:=h2 j hj;exact⟨g,e1,e3⟩
 ·have:=(h1.lt g hg).1;have:=hl g e;omega
theorem ShI.one (h:ShI B w rv dv rs xs):rv.oneCell'=true:=by
 obtain⟨vals,h1,_⟩:=h.rds;rcases h1.2 with ⟨rfl,_⟩ | ⟨g,cap,cur,rfl,_⟩ <;> rfl
theorem ShI.slc (h:ShI B w rv dv rs xs):∃ a n c,rv=.slice a n c:=by
 obtain⟨vals,h1,_⟩:=h.rds;rcases h1.2 with ⟨rfl,_⟩ | ⟨g,cap,cur,rfl,_⟩
 ·exact⟨_,_,_,rfl⟩
 ·exact⟨_,_,_,rfl⟩
structure MkT (base:Nat) (W w11:World) (rv lv:Value) (Rs:List (List (List Int))) (Ls:List (List Int)):Prop where
 mkg:MkG base w11 rv lv Rs Ls
 ints:∀ (b:Nat) (cs:Array Value) (f:Nat × Nat),W.heap[b]?=some (.cells cs 3 f)->w11.heap[b]?=W.heap[b]?
 below:Below base W w11
theorem MkG.both{XL:Nat}{Rs:List (List (List Int))} (h:MkG base W rv lv Rs Ls) (hXR:W.heap[XR]?=some (.cells #[u] 36 (0,0))) (hXL:W.heap[XL]?=some (.cells #[.slice (some ⟨g,0,none⟩) l.length l.length] 25 (0,0))) (hu:u.oneCell'=true) (hl:LyI base W lv u r) (hA:ArrI W g 3 l.length (zat l)) (n1:Rs.length<=1000000) (n2:Ls.length<=1000000) (hbase:base<=W.heap.size) :
  ∃ a c w10 a' c' w11,(Builtin.append_ #[39,39] 39 #[rv,.slice (some ⟨XR,0,none⟩) 1 1]).run Tryz.prog W=.ok (.slice a (Rs.length+1) c) w10/\(Builtin.append_ #[36,36] 36 #[lv,.slice (some ⟨XL,0,none⟩) 1 1]).run Tryz.prog w10=.ok (.slice a' (Ls.length+1) c') w11/\Below base W w10/\MkT base W w11 (.slice a (Rs.length+1) c) (.slice a' (Ls.length+1) c') (Rs++[r]) (Ls++[l]):=by
 obtain⟨v',w10,hrun,hM,_,hk,⟨a,c,rfl⟩,hb⟩:=h.pushR hXR hu hl n1 hbase;obtain⟨v2,w11,hrun2,hM2,_,hi,⟨a',c',rfl⟩,hb2⟩:=hM.pushL (X:=XL) ((hk.2 XL _ _ _ hXL (.inr rfl)).trans hXL) (hk.arr hA) n2 (by have:=hb.size;omega);refine⟨a,c,w10,a',c',w11,hrun,hrun2,hb,hM2,fun b cs f hb'=>?_,hb.trans hb2⟩;have e1:=hk.2 b cs _ f hb' (.inl rfl);exact (hi b cs f (e1.trans hb')).trans e1
theorem MkG.after{Rs:List (List (List Int))} (h:MkG base W rv lv Rs Ls) (hXR:W.heap[XR]?=some (.cells #[u] 36 (0,0))) (hu:u.oneCell'=true) (hl:LyI base W lv u r) (hA:ArrI W g 3 l.length (zat l)) (n1:Rs.length<=1000000) (n2:Ls.length<=1000000) (hbase:base<=W.heap.size) :
  ∃ a c w10 a' c' w11,(Builtin.append_ #[39,39] 39 #[rv,.slice (some ⟨XR,0,none⟩) 1 1]).run Tryz.prog W=.ok (.slice a (Rs.length+1) c) w10/\(Builtin.append_ #[36,36] 36 #[lv,.slice (some ⟨w10.heap.size,0,none⟩) 1 1]).run Tryz.prog (w10.alloc (.cells #[.slice (some ⟨g,0,none⟩) l.length l.length] 25))=.ok (.slice a' (Ls.length+1) c') w11/\Below base W w10/\MkT base W w11 (.slice a (Rs.length+1) c) (.slice a' (Ls.length+1) c') (Rs++[r]) (Ls++[l]):=by
 obtain⟨v',w10,hrun,hM,_,hk,⟨a,c,rfl⟩,hb⟩:=h.pushR hXR hu hl n1 hbase;have hba:Below w10.heap.size w10 (w10.alloc (.cells #[.slice (some ⟨g,0,none⟩) l.length l.length] 25)):=(Below.refl _ _).alloc (Nat.le_refl _) _;have hbs:base<=w10.heap.size:=by have:=hb.size;omega
 obtain⟨v2,w11,hrun2,hM2,_,hi,⟨a',c',rfl⟩,hb2⟩:=(hM.below hba).pushL (X:=w10.heap.size) (heap_alloc_new w10 _) ((KJ.below hba).arr (hk.arr hA)) n2 (by have:=hba.size;omega);refine⟨a,c,w10,a',c',w11,hrun,hrun2,hb,hM2,fun b cs f hb'=>?_,(hb.trans (hba.mono hbs)).trans hb2⟩;have e1:=hk.2 b cs _ f hb' (.inl rfl);have e2:=(KJ.below hba).2 b cs _ f (e1.trans hb') (.inl rfl);exact (hi b cs f (e2.trans (e1.trans hb'))).trans (e2.trans e1)
structure LstRR (n0:Nat) (w:World) (a:Option Addr) (cap:Nat) (Rs:List (List (List Int))):Prop where
 row:∀ k,k<Rs.length->∃ b o ak ck,a=some ⟨b,o,none⟩/\b<n0/\w.cell? ⟨b,o+k,none⟩=some (.slice ak (rrt Rs k).length ck)/\LstR n0 w ak ck (rrt Rs k)
 room:Rs.length<=cap
 nil:a=none->cap=0
theorem LstRR.below{B:World}{Rs:List (List (List Int))} (r:LstRR n0 A a cap Rs) (h:Below n0 A B):LstRR n0 B a cap Rs :=
 ⟨fun k hk=>by
  obtain⟨b,o,ak,ck,e1,e2,e3,e4⟩:=r.row k hk
  exact⟨b,o,ak,ck,e1,e2,(h.cell (p:=⟨b,o+k,none⟩) e2).trans e3,e4.below h⟩,r.room,r.nil⟩
structure LayB (Rs:List (List (List Int))) (Ls:List (List Int)):Prop where
 r0:Rs.length<=281474976710656
 r1:∀ k,k<Rs.length->(rrt Rs k).length<=5864062014634/\∀ j,j<(rrt Rs k).length->(rat (rrt Rs k) j).length<=17592186043904/\Fits (rat (rrt Rs k) j)
 l0:Ls.length<=5864062014634
 l1:∀ k,k<Ls.length->(rat Ls k).length<=17592186043904/\Fits (rat Ls k)
theorem LstG.back{B:World}{gs:List GatZ} (r:LstG n0 B a cap gs) (h:Below n0 A B):LstG n0 A a cap gs :=
 ⟨fun k hk=>by
  obtain⟨b,o,e1,e2,g1,g2,g3⟩:=r.row k hk
  exact⟨b,o,e1,e2,(h.cell (p:=⟨b,o+k*3,none⟩) e2).symm.trans g1,(h.cell (p:=⟨b,o+k*3+1,none⟩) e2).symm.trans g2,(h.cell (p:=⟨b,o+k*3+2,none⟩) e2).symm.trans g3⟩,r.room,r.nil⟩
theorem aCP (h3:3<=q) (h4:q<=2147483647) (n:Nat) {D:List Int} (h:Dig D) (k:Nat):Fits (drs q n k D):=fun j hj=>by
 unfold drs at hj ⊢;rw[kQ] at hj;rw[kZ _ _ _ hj];exact (Qo h3 h4 n h (j+1)).2.all 0
structure GsI (wide:Int) (lys:List (List GatZ)) (i:Nat) (s:GSt):Prop where
 dig:Dig s.D
 len:s.z.length=bnn wide lys (lys.length-i)
 fit:Fits s.z
 c:Bz s.c
theorem aCQ (h3:3<=q) (h4:q<=2147483647) (n:Nat) (wide:Int) (lys:List (List GatZ)) (outs:List Int) (Rs:List (List (List Int))) (Ls:List (List Int)):∀ i,i<=lys.length->GsI wide lys i (gst q n wide lys Rs Ls (gs0 q n wide lys outs) i)
 | 0,_=>by
  have hb:=qQ (Sum.ext (zat outs) (zat (drs q n (bnn wide lys lys.length) (digl q n (2 :: (lbz q wide lys lys.length++outs))))) (bnn wide lys lys.length)) q h3;exact⟨Qo h3 h4 n (zY h3 h4 _ _) _,Ts _ _ _ _,aCP h3 h4 n (zY h3 h4 _ _) _,⟨by show _<=_ % _;omega,by show _ % _<=_;omega⟩⟩
 | i+1,h=>by refine⟨Gx h3 h4 _ _ _,?_,Tq h3 h4 _ _ _,Tr h3 h4 _ _⟩;show (onl _ _ _ _).length=_;rw[Jz,List.length_take,Gy,show lys.length-(i+1)=lys.length-1-i from by omega];omega
theorem Mi (n0 b i cL:Nat) (wide:Int) (aL:Option Addr) (lys:List (List GatZ)) (w:World) (hS:SzC wide lys) (hi:i<lys.length) (hl:LstGG n0 w aL cL lys) (hn0:n0<=w.heap.size) (hT:TabAt 1 Lib.deBruijn64tab w) :
  Calls Tryz.prog 24 #[.pointer (some ⟨b,0,none⟩),.agg #[.int .i64 wide,.slice aL lys.length cL],.int .i64 (i:Int)] w fun e w'=>∃ ag cg,e=.returned (.agg #[.pointer (some ⟨b,0,none⟩),.slice ag (lyt lys i).length cg,.int .i64 (bnn wide lys i:Int)])/\LstG n0 w ag cg (lyt lys i)/\Below w.heap.size w w':=by
 have HRL:Hid (((w.alloc (.cells #[.int .i64 wide,.slice aL lys.length cL] 24)).alloc (.cells #[.pointer none,.slice none 0 0,.int .i64 0] 84)).heap[w.heap.size+1]?=some (.cells #[.pointer none,.slice none 0 0,.int .i64 0] 84 (0,0))):=by have:=heap_alloc_new (w.alloc (.cells #[.int .i64 wide,.slice aL lys.length cL] 24)) (.cells #[.pointer none,.slice none 0 0,.int .i64 0] 84);rw[show (w.alloc (.cells #[.int .i64 wide,.slice aL lys.length cL] 24)).heap.size=w.heap.size+1 from by simp] at this;exact this
 have HB1:Hid (Below w.heap.size w ((w.alloc (.cells #[.int .i64 wide,.slice aL lys.length cL] 24)).alloc (.cells #[.pointer none,.slice none 0 0,.int .i64 0] 84))):=((Below.refl _ _).alloc (Nat.le_refl _) _).alloc (by simp) _;obtain⟨bi,oi,ag,cg,ha,hbi,hci,hgi⟩:=hl.row i hi;have HGI:=hid hgi;subst ha;obtain⟨q0,q1⟩:=hS.bn (i:=i) (by omega);have hlen:=hS.2.1.2;have hin:(i:Int)<(lys.length:Int):=by omega
 have hbi3:bi<w.heap.size:=by omega
 have hbi2:bi<w.heap.size+1:=by omega
 clear hn0;by_cases e0:i=0
 ·have q2:wide=(bnn wide lys i:Int):=by rw[<- q0];unfold bnz;rw[if_pos e0]
  rw[<- q2];have hi0:¬ (0:Int)<(i:Int):=by omega
  generalize (lyt lys i).length=N at *;generalize lys.length=n at *;clear hS hl hgi q0 q1 q2 e0 hT;go_enter Tryz.func24,Tryz.ntmps24;go_wp2_with (refine wpList_store_row rfl 84 _ _ rfl (w.heap.size+1) #[.pointer (some ⟨b,0,none⟩),.slice ag N cg,.int .i64 wide] rfl rfl _ _ HRL.out (by kernel_rfl) rfl (by simp[Value.oneCell']) ?_);refine bodyPost_ret (results_cell_row rfl _ _ (w.heap.size+1) 84 #[.pointer (some ⟨b,0,none⟩),.slice ag N cg,.int .i64 wide] (0,0) _ rfl (setRow_heap _ _ _ _ _ _ HRL.out) Tryz.underlying84 rfl (by kernel_rfl)) rfl ?_;exact⟨ag,cg,rfl,HGI.out,below_setRow HB1.out (by omega) _⟩
 ·obtain⟨j,hj⟩:=exE (i-1);obtain⟨bj,oj,aj,cj,ha,hbj,hcj,_⟩:=hl.row j (by omega);injection ha with ha
  injection ha with ha1 ha2 _
  subst ha1;subst ha2;have hbl:bnn wide lys i<=6:=q1;obtain⟨o1,o2⟩:=hS.own (i:=j) (by omega);rw[show j+1=i from by omega] at o1 o2;have HV:=hid (Ig (lyt lys j).length (bnn wide lys i) _ hbl o1 (xU hT HB1.out));have hi0:(0:Int)<(i:Int):=by omega
  have hij:(i:Int)-1=(j:Int):=by omega
  have hjn:(j:Int)<(lys.length:Int):=by omega
  generalize bnn wide lys i=B at *;generalize (lyt lys i).length=N at *;generalize (lyt lys j).length=M at *;generalize lys.length=n at *;clear hS hl hgi q0 q1 e0 hT hbl o1 o2 hj;go_enter Tryz.func24,Tryz.ntmps24;go_wp2_with fail;refine HV.out.mono ?_;rintro e w1 ⟨rfl,hw⟩;have hw1:=hw.symm;subst hw1;clear hw HV;go_wp2_with (refine wpList_store_row rfl 84 _ _ rfl (w.heap.size+1) #[.pointer (some ⟨b,0,none⟩),.slice ag N cg,.int .i64 (B:Int)] rfl rfl _ _ HRL.out (by kernel_rfl) rfl (by simp[Value.oneCell']) ?_);refine bodyPost_ret (results_cell_row rfl _ _ (w.heap.size+1) 84 #[.pointer (some ⟨b,0,none⟩),.slice ag N cg,.int .i64 (B:Int)] (0,0) _ rfl (setRow_heap _ _ _ _ _ _ HRL.out) Tryz.underlying84 rfl (by kernel_rfl)) rfl ?_;exact⟨ag,cg,rfl,HGI.out,below_setRow HB1.out (by omega) _⟩
theorem aCR{wide:Int}{lys:List (List GatZ)}{outs:List Int} (hS:SzC wide lys) (h:outs.length=(lyt lys (lys.length-1)).length):outs.length=2 ^ bnn wide lys lys.length:=by
 have h1:=hS.2.1.1;rw[h,(hS.own (show lys.length-1<lys.length by omega)).1,show lys.length-1+1=lys.length from by omega]
end Go.Proofs.YtkdndfbfmchcpaaGreatDoor
