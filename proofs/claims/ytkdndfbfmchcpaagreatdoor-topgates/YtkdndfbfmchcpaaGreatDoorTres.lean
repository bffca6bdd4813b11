
import Derived.Deep.Onto
import Derived.OneCell
import Derived.Test.YtkdndfbfmchcpaaGreatDoorTgAD
set_option maxRecDepth 1000000
set_option maxHeartbeats 8000000
namespace Go.Proofs.YtkdndfbfmchcpaaGreatDoor
variable {N:Int}{O base g i n q:Nat}{W w w':World}{a b c u v:Value}{nodes rows rs:List (List Int)}{ps r root:List Int}
open Go.RowKit
def By (w:World) (b:Nat):Prop:=∃ c t f,w.heap[b]?=some (.cells c t f)/\t≠25/\t≠51/\t≠94/\t≠346/\t≠36/\t≠346
def SlR (w:World) (r:List Int) (v:Value):Prop:=∃ a c,v=.slice a r.length c/\Lst w.heap.size w a c r/\(0<r.length->∃ b o,a=some ⟨b,o,none⟩/\By w b)
theorem SlR.blocks (h:SlR w r v) (hs:w.heap.size<=w'.heap.size) (e:∀ b,b<w.heap.size->By w b->w'.heap[b]?=w.heap[b]?):SlR w' r v:=by
 obtain⟨a,c,rfl,hl,hn⟩:=h;refine⟨a,c,rfl,⟨fun k hk=>?_,hl.room,hl.nil⟩,fun h0=>?_⟩
 ·obtain⟨b,o,rfl,h2,h3⟩:=hl.row k hk;obtain⟨b',o',e1,hb⟩:=hn (by omega);cases e1;exact⟨b,o,rfl,by omega,(World.cell?_of_block (w:=w) (a:=⟨b,o+k,none⟩) (e b h2 hb)).trans h3⟩
 ·obtain⟨b,o,rfl,hb⟩:=hn h0;obtain⟨b',o',e1,h2,_⟩:=hl.row 0 h0;cases e1;obtain⟨c',t,f,h3,h4⟩:=hb;exact⟨b,o,rfl,c',t,f,(e b h2 ⟨c',t,f,h3,h4⟩).trans h3,h4⟩
theorem SlR.keep (h:SlR w r v) (e:Below w.heap.size w w'):SlR w' r v:=h.blocks e.size (fun b hb _=>e.block b hb)
theorem SlR.one (h:SlR w r v):v.oneCell'=true:=by obtain⟨a,c,rfl,_⟩:=h;rfl
theorem SlR.lst (h:SlR w r v):∃ a c,v=.slice a r.length c/\Lst w.heap.size w a c r:=by obtain⟨a,c,h1,h2,_⟩:=h;exact⟨a,c,h1,h2⟩
theorem Jg{zs:List Int} (h:w.ownsRow base 3 1 v zs.length (zs.map (Value.int .i64))):SlR w zs v:=by
 obtain⟨a,c,rfl,hl⟩:=kY h;refine⟨a,c,rfl,hl,fun h0=>?_⟩;rcases h.2 with ⟨_,h1⟩ | ⟨g,cap,cur,hv,_,hg,_⟩
 ·omega
 ·injection hv with e1 _ _
  exact⟨g,0,e1,cur,3,(0,0),hg,by decide,by decide,by decide,by decide,by decide,by decide⟩
def OwnR (base:Nat) (w:World) (v:Value) (rs:List (List Int)):Prop:=∃ vals:List Value,w.ownsRow base 25 1 v rs.length vals/\∀ j,j<rs.length->∃ u,vals[j]?=some u/\SlR w (rat rs j) u
theorem Uw (e:Below w.heap.size w w'):w.grownBy w' none:=⟨e.os,e.tape,e.output,e.size,fun k hk _=>e.block k hk⟩
theorem OwnR.keep (h:OwnR base w v rs) (e:Below w.heap.size w w'):OwnR base w' v rs:=by
 obtain⟨vals,h1,h2⟩:=h;refine⟨vals,h1.kept (Uw e) ?_,fun j hj=>?_⟩
 ·cases v.ownBlock with
  | none=>exact .inl rfl
  | some k=>exact .inr (by simp)
 ·obtain⟨u,h3,h4⟩:=h2 j hj;exact⟨u,h3,h4.keep e⟩
theorem OwnR.nil (base:Nat) (w:World):OwnR base w (.slice none 0 0) []:=⟨[],World.ownsRow_nil _ _ _ _,fun j hj=>by simp at hj⟩
theorem OwnR.lst (h:OwnR base w v rs):∃ a c,v=.slice a rs.length c/\LstR w.heap.size w a c rs:=by
 obtain⟨vals,h1,h2⟩:=h;rcases h1.2 with ⟨rfl,h0⟩ | ⟨g,cap,cur,rfl,hb,hg,hn,hm,hs,ht⟩
 ·exact⟨none,0,by rw[h0],fun k hk=>by omega,by omega,fun _=>rfl⟩
 ·refine⟨some ⟨g,0,none⟩,cap,rfl,fun k hk=>?_,hn,fun e=>by cases e⟩;obtain⟨u,h3,h4⟩:=h2 k hk;obtain⟨a,c,rfl,hl⟩:=h4.lst;refine⟨g,0,a,c,rfl,(Array.getElem?_eq_some_iff.1 hg).1,?_,hl⟩;rw[Nat.zero_add,h1.cellAt k (by omega),h3]
theorem OwnR.mono{base':Nat} (h:OwnR base w v rs) (e:base'<=base):OwnR base' w v rs:=by
 obtain⟨vals,h1,h2⟩:=h;exact⟨vals,World.ownsRow.mono h1 e,h2⟩
theorem OwnR.own (h:OwnR base w v rs):∀ k,v.ownBlock=some k->base<=k/\k<w.heap.size/\¬ By w k:=fun k hk=>by
 obtain⟨vals,h1,_⟩:=h;refine⟨(h1.lt k hk).1,(h1.lt k hk).2,?_⟩;rintro⟨c,t,f,h3,h4⟩;rcases h1.2 with ⟨rfl,_⟩ | ⟨g,cap,cur,rfl,hb,hg,_⟩
 ·cases hk
 ·cases hk;rw[hg] at h3;cases h3;exact h4.1 rfl
theorem aDw{b:Nat} (hO:∃ c f,w.heap[O]?=some (.cells c 51 f)) (hb:By w b):(w.setCell ⟨O,i,none⟩ v).heap[b]?=w.heap[b]?:=by
 refine Below.heap_setCell _ _ _ _ ?_;rintro rfl;obtain⟨c,f,h1⟩:=hO;obtain⟨c',t,f',h2,h3⟩:=hb;rw[h1] at h2;cases h2;exact h3.2.1 rfl
theorem SlR.setO (h:SlR w r u) (hO:∃ c f,w.heap[O]?=some (.cells c 51 f)):SlR (w.setCell ⟨O,i,none⟩ v) r u :=
 h.blocks (by simp[World.setCell]) (fun _ _ hb=>aDw hO hb)
theorem OwnR.setO (h:OwnR base w u rs) (hO:∃ c f,w.heap[O]?=some (.cells c 51 f)):OwnR base (w.setCell ⟨O,i,none⟩ v) u rs:=by
 obtain⟨vals,h1,h2⟩:=h;refine⟨vals,?_,fun j hj=>?_⟩
 ·refine ownsRow_setCell_other h1 (fun e=>?_) v;rcases h1.2 with ⟨rfl,_⟩ | ⟨g,cap,cur,rfl,_,hg,_⟩
  ·cases e
  ·cases e;obtain⟨c,f,h3⟩:=hO;rw[hg] at h3;injection h3 with h3
   injection h3 with _ h3 _
   exact absurd h3 (by decide)
 ·obtain⟨x,h3,h4⟩:=h2 j hj;exact⟨x,h3,h4.setO hO⟩
theorem Hp (rs ts:List (List Int)) (j:Nat):rat (rs++ts) j=if j<rs.length then rat rs j else rat ts (j-rs.length):=by
 unfold rat;by_cases h:j<rs.length
 ·rw[if_pos h];simp[List.getElem?_append_left h]
 ·rw[if_neg h];simp[List.getElem?_append_right (show rs.length<=j by omega)]
theorem Va{ops:Array Oper}{rest:List Oper}{o:Oper}{act:Act}{Q:Exit->Act->World->Prop} (W:World) (base:Nat) (hgd:o.guard=none) (s x:Operand)
  (ho:o.op=.call { callee:=.builtin .append,args:=#[s,x],argTypes:=#[36,36] }) (v:Value) (rs ts:List (List Int))
  (hown:OwnR base W v rs) (hs:act.eval s=v) (ad:Addr) (m cap:Nat) (hm:m=ts.length) (hx:act.eval x=.slice (some ad) m cap) (us:List Value) (hul:us.length=ts.length) (huc:∀ j u,us[j]?=some u->W.cell? (ad.add j)=some u)
  (hus:∀ j,j<ts.length->∃ u,us[j]?=some u/\SlR W (rat ts j) u) (hlen:rs.length+ts.length<=5864062014805) (hbase:base<=W.heap.size)
  (h:∀ v' w2,OwnR base w2 v' (rs++ts)->Below base W w2->(∀ b,b<W.heap.size->By W b->w2.heap[b]?=W.heap[b]?)->wpList Tryz.prog ops Q rest (act.put o.dst v') w2) :
  wpList Tryz.prog ops Q (o :: rest) act W:=by
 subst hm;obtain⟨i0,hi,hz0,hz1,hz2⟩:=info_parts Tryz.infoSl;have howb:=hown.own;obtain⟨vals,h1,h2⟩:=hown;have hvl:vals.length=rs.length:=by have:=h1.1;omega
 refine wpList_append_own _ hgd s x 36 ho base 25 i0 (.slice none 0 0) 1 24 Tryz.underlying36 hi hz0 hz1 hz2 rfl (by decide) _ _ _ hs h1 ad ts.length cap us hx (by omega) huc ?_ (by unfold maxLen;omega) (by omega) hbase ?_
 ·intro t ht;obtain⟨j,hj,rfl⟩:=List.getElem_of_mem ht;obtain⟨u,e1,e2⟩:=hus j (by omega);rw[List.getElem?_eq_getElem hj] at e1;cases e1;exact e2.one
 ·intro v' w2 hown2 hgrow _;have hB:Below base W w2:=(Below.refl base W).grown hgrow hbase (fun k hk=>(howb k hk).1);have hN:∀ b,b<W.heap.size->By W b->w2.heap[b]?=W.heap[b]?:=fun b hb hn=>hgrow.block b hb (fun e=>(howb b e.symm).2.2 hn);refine h v' w2 ⟨vals++us,by rw[List.length_append];exact hown2,fun j hj=>?_⟩ hB hN;rw[List.length_append] at hj;rw[Hp rs ts j];by_cases hjr:j<rs.length
  ·rw[if_pos hjr,List.getElem?_append_left (by omega)];obtain⟨u,e1,e2⟩:=h2 j hjr;exact⟨u,e1,e2.blocks hgrow.size hN⟩
  ·rw[if_neg hjr,List.getElem?_append_right (by omega),hvl];obtain⟨u,e1,e2⟩:=hus (j-rs.length) (by omega);exact⟨u,e1,e2.blocks hgrow.size hN⟩
theorem Vb{ops:Array Oper}{rest:List Oper}{o:Oper}{act:Act}{Q:Exit->Act->World->Prop} (W:World) (base:Nat) (hgd:o.guard=none) (s x:Operand)
  (ho:o.op=.call { callee:=.builtin .append,args:=#[s,x],argTypes:=#[36,36] }) (v u:Value) (rs:List (List Int)) (r:List Int)
  (hown:OwnR base W v rs) (hu:SlR W r u) (hs:act.eval s=v) (hx:act.eval x=.slice (some ⟨W.heap.size,0,none⟩) 1 1) (hlen:rs.length+1<=5864062014805) (hbase:base<=W.heap.size)
  (h:∀ v' w2,OwnR base w2 v' (rs++[r])->Below base W w2->(∀ b,b<W.heap.size->By W b->w2.heap[b]?=W.heap[b]?)->wpList Tryz.prog ops Q rest (act.put o.dst v') w2) :
  wpList Tryz.prog ops Q (o :: rest) act (W.alloc (.cells #[u] 25)):=by
 have hbw:Below W.heap.size W (W.alloc (.cells #[u] 25)):=(Below.refl _ _).alloc (Nat.le_refl _) _;refine Va (W.alloc (.cells #[u] 25)) base hgd s x ho v rs [r] (hown.keep hbw) hs ⟨W.heap.size,0,none⟩ 1 1 rfl hx [u] rfl ?_ ?_ hlen (by simp;omega) ?_
 ·intro j t hj
  match j,hj with
  | 0,hj=>simp at hj;subst hj;simp[Addr.add]
 ·intro j hj;obtain rfl:j=0:=by simp at hj;exact hj
  exact⟨u,rfl,hu.keep hbw⟩
 ·intro v' w2 h1 h2 h3;refine h v' w2 h1 ((hbw.mono hbase).trans h2) (fun b hb hn=>?_);have e:=hbw.block b hb;obtain⟨c,t,f,h4,h5⟩:=hn;exact (h3 b (by simp;omega) ⟨c,t,f,e.trans h4,h5⟩).trans e
theorem Nu{k:Nat} (h:k<rows.length):rows.take (k+1)=rows.take k++[rat rows k]:=by
 rw[List.take_add_one,List.getElem?_eq_getElem h];simp[rat,h]
def ndf (q n:Nat):Nat->List (List Int)->List Int->Int->List (List Int)
 | 0,_,_,_=>[]
 | k+1,rows,ps,first=>if smb ps first (first+(rows.length:Int))=false then [rtf q n (k+1) rows] else if rows.length=1 then [] else
  ndf q n k (rows.take (lft rows.length)) ps first++ndf q n k (rows.drop (lft rows.length)) ps (first+((lft rows.length:Nat):Int))
theorem Rk (q n:Nat):∀ (k:Nat) (rows:List (List Int)) (ps:List Int) (first:Int),1<=rows.length->(ndf q n k rows ps first).length<=rows.length
 | 0,_,_,_,_=>by simp[ndf]
 | k+1,rows,ps,first,h=>by
  simp only[ndf];split
  ·simpa using h
  ·split
   ·simp
   ·rename_i h1
    obtain⟨_,l2,l3⟩:=zJ rows.length;have l3':=l3 (by omega);have a1:=Rk q n k (rows.take (lft rows.length)) ps first (by rw[List.length_take];omega)
    have a2:=Rk q n k (rows.drop (lft rows.length)) ps (first+((lft rows.length:Nat):Int)) (by rw[List.length_drop];omega);rw[List.length_take] at a1;rw[List.length_drop] at a2;rw[List.length_append];omega
attribute [local irreducible] wpStill
def tri (a b c:Value):Nat->Value
 | 0=>a
 | 1=>b
 | _=>c
theorem Di (w:World) (t:TypeId) (a b c:Value):(w.alloc (.cells #[a,b,c] t)).rowIs w.heap.size t 3 (tri a b c) :=
 ⟨#[a,b,c],heap_alloc_new w _,rfl,fun i hi=>by
  have:i=0∨i=1∨i=2:=by omega
  rcases this with rfl | rfl | rfl <;> rfl⟩
theorem Hq{t:TypeId} (h:W.rowIs g t 3 (tri a b c)):W.heap[g]?=some (.cells #[a,b,c] t (0,0)):=by
 obtain⟨cs,h1,h2,h4⟩:=h;rw[h1]
 have e:cs=#[a,b,c]:=by
  apply Array.ext
  ·simpa using h2
  ·intro i hi hi2;have h0:i=0∨i=1∨i=2:=by simp at hi2;omega
   have h5:=h4 i (by omega);rw[Array.getElem?_eq_getElem hi] at h5;have h6:=Option.some.inj h5;rw[h6];rcases h0 with rfl | rfl | rfl <;> rfl
 rw[e]
theorem Nf{t:TypeId} (h:W.rowIs g t 3 (tri a b c)) (b':Value):(W.setCell ⟨g,1,none⟩ b').rowIs g t 3 (tri a b' c) :=
 (h.set 1 b').congr (fun i hi=>by
  have:i=0∨i=1∨i=2:=by omega
  rcases this with rfl | rfl | rfl <;> simp[tri])
theorem Ng{t:TypeId} (h:W.rowIs g t 3 (tri a b c)) (a':Value):(W.setCell ⟨g,0,none⟩ a').rowIs g t 3 (tri a' b c) :=
 (h.set 0 a').congr (fun i hi=>by
  have:i=0∨i=1∨i=2:=by omega
  rcases this with rfl | rfl | rfl <;> simp[tri])
theorem Vc{t:TypeId} (h:W.rowIs g t 3 (tri a b c)) (c':Value):(W.setCell ⟨g,2,none⟩ c').rowIs g t 3 (tri a b c') :=
 (h.set 2 c').congr (fun i hi=>by
  have:i=0∨i=1∨i=2:=by omega
  rcases this with rfl | rfl | rfl <;> simp[tri])
def elr (q:Nat) (r:List Int):List Int:=ls (fun j=>zat r j % (q:Int)) r.length
def shw (q:Nat) (rows:List (List Int)) (os:List Int):List (List Int):=os.map (fun x=>elr q (rat rows x.toNat))
theorem Dj (q:Nat) (rows:List (List Int)) (os:List Int):(shw q rows os).length=os.length:=by simp[shw]
theorem aDx (q:Nat) (rows:List (List Int)) {os:List Int} {k:Nat} (h:k<os.length):shw q rows (os.take (k+1))=shw q rows (os.take k)++[elr q (rat rows (zat os k).toNat)]:=by
 unfold shw;rw[List.take_add_one,List.getElem?_eq_getElem h,List.map_append];simp[zat,h]
theorem Vd{f:Nat->Value} (h:w.rowIs O 51 n f):∃ c fr,w.heap[O]?=some (.cells c 51 fr):=by
 obtain⟨c,h1,_⟩:=h;exact⟨c,_,h1⟩
theorem aGh{b:Nat} (hO:∃ c f,w.heap[O]?=some (.cells c 51 f)) (hb:By w b):b≠O:=by
 rintro rfl;obtain⟨c,f,h1⟩:=hO;obtain⟨c',t,f',h2,h3⟩:=hb;rw[h1] at h2;cases h2;exact h3.2.1 rfl
def fx (ps:List Int) (x:Int):Nat:=((List.range ps.length).find? (fun i=>zat ps i==x)).getD 0
def upf (q n:Nat) (ps:List Int) (rows nodes:List (List Int)):Nat->Int->Nat->Nat->Bool->List Int × Nat × Bool
 | 0,_,_,t,bad=>([],t,bad)
 | k+1,first,cnt,t,bad =>
  if smb ps first (first+(cnt:Int))=false then (if nodes.length<=t∨(rat nodes t).length≠4 then ([0,0,0,0],t,true) else (elr q (rat nodes t),t+1,bad))
  else if cnt=1 then (digl q n (0 :: rat rows (fx ps first)),t,bad)
  else
   (digl q n (1 :: ((upf q n ps rows nodes k first (lft cnt) t bad).1++(upf q n ps rows nodes k (first+((lft cnt:Nat):Int)) (cnt-lft cnt) (upf q n ps rows nodes k first (lft cnt) t bad).2.1 (upf q n ps rows nodes k first (lft cnt) t bad).2.2).1)),
    (upf q n ps rows nodes k (first+((lft cnt:Nat):Int)) (cnt-lft cnt) (upf q n ps rows nodes k first (lft cnt) t bad).2.1 (upf q n ps rows nodes k first (lft cnt) t bad).2.2).2)
theorem aDy (h3:3<=q) (h4:q<=2147483647) (r:List Int):Fits (elr q r):=fun j hj=>by
 unfold elr at *;rw[kQ] at hj;rw[kZ _ _ _ hj];have:=qQ (zat r j) q h3;omega
def Dk (N:Int) (ps:List Int):Prop:=∀ j,j<ps.length->0<=zat ps j/\zat ps j<N/\(0<j->zat ps (j-1)<zat ps j)
instance (N:Int) (ps:List Int):Decidable (Dk N ps):=by unfold Dk;infer_instance
def Eu (q n:Nat) (root:List Int) (N:Int) (ps:List Int) (rows nodes:List (List Int)):Bool :=
 decide (1<=N/\N<=65536/\rows.length=ps.length/\root.length=4/\Dk N ps) &&
  (aAA q (upf q n ps rows nodes N.toNat 0 N.toNat 0 false).1 root && !(upf q n ps rows nodes N.toNat 0 N.toNat 0 false).2.2 && (upf q n ps rows nodes N.toNat 0 N.toNat 0 false).2.1==nodes.length)
theorem Rl (h:¬ (1<=N/\N<=65536/\rows.length=ps.length/\root.length=4/\Dk N ps)):Eu q n root N ps rows nodes=false:=by
 unfold Eu;rw[decide_eq_false h];rfl
theorem Nh (h:1<=N/\N<=65536/\rows.length=ps.length/\root.length=4/\Dk N ps):Eu q n root N ps rows nodes=(aAA q (upf q n ps rows nodes N.toNat 0 N.toNat 0 false).1 root && !(upf q n ps rows nodes N.toNat 0 N.toNat 0 false).2.2 && (upf q n ps rows nodes N.toNat 0 N.toNat 0 false).2.1==nodes.length):=by
 unfold Eu;rw[decide_eq_true h];rfl
theorem Yj{l l':List Int} (hl:l.length=l'.length) (h:∀ j,j<l.length->zat l j % (q:Int)=zat l' j % (q:Int)):digl q n l=digl q n l':=by
 have e:pdf q (zat l) l.length=pdf q (zat l') l'.length:=by
  funext j
  unfold pdf;rw[<- hl];split
  ·rename_i hj
   exact h j hj
  ·rfl
 unfold digl;rw[e,hl]
theorem aEI{f g:Nat->Int} (h:∀ j,j<n->f j=g j):ls f n=ls g n:=by
 unfold ls;exact List.map_congr_left (fun j hj=>h j (List.mem_range.1 hj))
theorem Hr (h3:3<=q) (n:Nat) (l:List Int):elr q (digl q n l)=digl q n l:=by
 unfold elr;rw[yK];unfold digl;refine aEI fun j hj=>?_;rw[kZ _ _ _ hj];have:=Fc q n (pdf q (zat l) l.length) (l.length / 4+1) j h3;exact Int.emod_eq_of_lt this.1 this.2
theorem aAn (h3:3<=q) (n k:Nat) (rows:List (List Int)) (hk:1<=k):elr q (rtf q n k rows)=rtf q n k rows:=by
 cases k with
 | zero=>omega
 | succ k=>simp only[rtf];split <;> exact Hr h3 _ _
theorem aDz (n:Nat) (r:List Int) (z:Int):digl q n (z :: elr q r)=digl q n (z :: r):=by
 have hl:(elr q r).length=r.length:=by unfold elr;exact kQ _ _
 refine Yj (by simp[hl]) fun j hj=>?_;cases j with
 | zero=>rfl
 | succ j =>
  have hj2:j<r.length:=by simp[hl] at hj;omega
  show zat (elr q r) j % (q:Int)=zat r j % (q:Int);unfold elr;rw[kZ _ _ _ hj2,Int.emod_emod_of_dvd _ (Int.dvd_refl _)]
theorem aAo{os:List Int} (h:i<os.length):rat (shw q rows os) i=elr q (rat rows (zat os i).toNat):=by
 show (shw q rows os).getD i []=_;unfold shw zat;rw[List.getD_eq_getElem?_getD,List.getElem?_map,List.getElem?_eq_getElem h];rfl
theorem aAp{x:Int} (h:∃ j,j<ps.length/\zat ps j=x):fx ps x<ps.length/\zat ps (fx ps x)=x:=by
 obtain⟨j,h1,h2⟩:=h;unfold fx;cases e:(List.range ps.length).find? (fun i=>zat ps i==x) with
 | none =>
  have:=List.find?_eq_none.1 e j (List.mem_range.2 h1);simp[h2] at this
 | some i =>
  have h3:=List.find?_some e;have h4:=List.mem_range.1 (List.mem_of_find?_eq_some e);exact⟨h4,by simpa using h3⟩
theorem Ni {q:Nat} (h3:3<=q) (n:Nat) (rows:List (List Int)) (os:List Int) (nodes:List (List Int)):∀ (k first cnt t:Nat) (bad:Bool),1<=cnt->cnt<=k->first+cnt<=rows.length->(∃ post,nodes.drop t=ndf q n k ((rows.drop first).take cnt) os (first:Int)++post) ->
  upf q n os (shw q rows os) nodes k (first:Int) cnt t bad=(rtf q n k ((rows.drop first).take cnt),t+(ndf q n k ((rows.drop first).take cnt) os (first:Int)).length,bad)
 | 0,_,_,_,_,h1,h2,_,_=>by omega
 | k+1,first,cnt,t,bad,h1,h2,h5,hp=>by
  have hlen:((rows.drop first).take cnt).length=cnt:=by rw[List.length_take,List.length_drop];omega
  obtain⟨post,hp⟩:=hp;simp only[ndf,hlen] at hp ⊢;simp only[upf];by_cases hs:smb os (first:Int) ((first:Int)+(cnt:Int))=false
  ·rw[if_pos hs] at hp ⊢;rw[if_pos hs]
   have e0:rat nodes t=rtf q n (k+1) ((rows.drop first).take cnt):=by
    have e:rat (nodes.drop t) 0=rtf q n (k+1) ((rows.drop first).take cnt):=by rw[hp];rfl
    rw[La] at e;exact e
   have e1:t<nodes.length:=by
    have e:(nodes.drop t).length=1+post.length:=by rw[hp];simp;omega
    rw[List.length_drop] at e;omega
   rw[if_neg (by rw[e0,Ek q n (k+1) _ (by omega)];omega),e0,aAn h3 n (k+1) _ (by omega)];rfl
  ·rw[if_neg hs] at hp ⊢;rw[if_neg hs];have hst:smb os (first:Int) ((first:Int)+(cnt:Int))=true:=by simpa using hs
   by_cases hone:cnt=1
   ·rw[if_pos hone];rw[if_pos hone];simp only[rtf,hlen];rw[if_pos hone];obtain⟨j,g1,g2,g3⟩:=Pv.1 hst;obtain⟨f1,f2⟩:=aAp (ps:=os) (x:=(first:Int)) ⟨j,g1,by omega⟩;rw[aAo f1,f2,aDz,Sl (by omega),La];simp
   ·obtain⟨_,l2,l3⟩:=zJ cnt;have l3':=l3 (by omega);rw[if_neg hone] at hp ⊢;rw[if_neg hone];obtain⟨m,hm⟩:=exE (lft cnt);simp only[rtf,hlen];rw[if_neg hone];rw[<- hm] at hp l2 l3' ⊢;have t1:((rows.drop first).take cnt).take m=(rows.drop first).take m:=by rw[List.take_take,Nat.min_eq_left (by omega)]
    have t2:((rows.drop first).take cnt).drop m=(rows.drop (first+m)).take (cnt-m):=by rw[List.drop_take,List.drop_drop]
    rw[t1,t2] at hp ⊢;have c1:(first:Int)+(m:Int)=((first+m:Nat):Int):=by omega
    rw[c1] at hp ⊢;have i1:=Ni h3 n rows os nodes k first m t bad (by omega) (by omega) (by omega) ⟨_,by rw[hp,List.append_assoc]⟩
    have i2:=Ni h3 n rows os nodes k (first+m) (cnt-m) (t+(ndf q n k ((rows.drop first).take m) os (first:Int)).length) bad (by omega) (by omega) (by omega) ⟨post,by
     rw[<- List.drop_drop,hp,List.append_assoc,List.drop_left]⟩
    rw[i1];dsimp only;rw[i2];simp[List.length_append,Nat.add_assoc]
theorem aBk (h3:3<=q) (n:Nat) (rows:List (List Int)) (os:List Int) (h1:1<=rows.length) (h2:rows.length<=65536) (hos:Dk (rows.length:Int) os) :
  Eu q n (rtf q n rows.length rows) (rows.length:Int) os (shw q rows os) (ndf q n rows.length rows os 0)=true:=by
 have e:=Ni h3 n rows os (ndf q n rows.length rows os 0) rows.length 0 rows.length 0 false h1 (Nat.le_refl _) (by omega) ⟨[],by simp⟩;simp only[List.drop_zero,List.take_length,Nat.zero_add,Int.natCast_zero] at e;rw[Nh ⟨by omega,by omega,Dj _ _ _,Ek _ _ _ _ h1,hos⟩,Int.toNat_natCast,e];rw[aAB rfl (fun _ _=>rfl)];simp
theorem aD0{xs ys:List Int}:aAA q xs ys=true↔xs.map (· % (q:Int))=ys.map (· % (q:Int)):=by
 unfold aAA;rw[decide_eq_true_eq]
theorem Hs (q:Nat) (r:List Int):elr q r=r.map (· % (q:Int)):=by
 apply List.ext_getElem?;intro i;unfold elr ls;rw[List.getElem?_map,List.getElem?_map];by_cases h:i<r.length
 ·rw[List.getElem?_range h,List.getElem?_eq_getElem h];simp[zat,h]
 ·rw[List.getElem?_eq_none (by simp;omega),List.getElem?_eq_none (by omega)];rfl
theorem aEJ (h3:3<=q) (n:Nat) (ps:List Int) (rows nodes:List (List Int)) (k:Nat) (first:Int) (cnt t:Nat) (bad:Bool):elr q (upf q n ps rows nodes k first cnt t bad).1=(upf q n ps rows nodes k first cnt t bad).1:=by
 cases k with
 | zero=>rfl
 | succ k =>
  simp only[upf];split
  ·split
   ·rw[Hs];simp
   ·rw[Hs,Hs,List.map_map];exact List.map_congr_left fun x _=>Int.emod_emod_of_dvd _ (Int.dvd_refl _)
  ·split <;> exact Hr h3 _ _
end Go.Proofs.YtkdndfbfmchcpaaGreatDoor
