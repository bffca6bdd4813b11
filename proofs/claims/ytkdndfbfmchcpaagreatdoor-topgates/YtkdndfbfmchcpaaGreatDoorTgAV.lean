
import Derived.Test.YtkdndfbfmchcpaaGreatDoorTgAU
import Derived.Shelf.Slices.In.SortNone
import Derived.Lib.SlKeysI
import Derived.Test.YtkdndfbfmchcpaaGreatDoorTgAR
import Derived.Test.YtkdndfbfmchcpaaGreatDoorTgAS
set_option maxRecDepth 1000000
set_option maxHeartbeats 8000000
namespace Go.Proofs.YtkdndfbfmchcpaaGreatDoor
variable {A w w':World}{B O a b base k m n q:Nat}{rows:List (List Int)}{u:Value}
open Go.RowKit
theorem aE6{root:List Int}{N:Int}{ps:List Int}{nodes:List (List Int)} (h:¬ okb N root ps rows nodes):Eu q n root N ps rows nodes=false:=by
 by_cases hN:1<=N/\N<=65536/\root.length=4
 ·obtain⟨M,rfl⟩:=Int.eq_ofNat_of_zero_le (show 0<=N by omega);exact aER (by omega) (fun hs=>h ⟨hN.1,hN.2.1,hN.2.2,by rw[Int.toNat_natCast];exact hs⟩)
 ·exact Rl (fun hc=>hN ⟨hc.1,hc.2.1,hc.2.2.2.1⟩)
theorem aAX (q n d b s c4 cp cr cn:Nat) (a4 ap ar an':Option Addr) (root:List Int) (N:Int) (ps:List Int) (rows nodes:List (List Int)) (W:World) (ok:SpgOk q n d) (hs:SpgAt W s b q n d) (hpl:ps.length<=281474976710656) (hnl:nodes.length<=281474976710656) (hN1:-9223372036854775808<=N) (hN2:N<=9223372036854775807)
  (hf4:Fits root) (hfp:Fits ps) (hfr:Ak rows) (hfn:Ak nodes) (hl4:Lst W.heap.size W a4 c4 root) (hp:Lst W.heap.size W ap cp ps) (hr:LstR W.heap.size W ar cr rows) (hn:LstR W.heap.size W an' cn nodes) :
  Calls Tryz.prog 88 #[.pointer (some ⟨s,0,none⟩),.slice a4 root.length c4,.int .i64 N,.agg #[.slice ap ps.length cp,.slice ar rows.length cr,.slice an' nodes.length cn]] W fun e w'=>e=.returned (.bool (Eu q n root N ps rows nodes))/\Below W.heap.size W w':=by
 have HB0:Hid (Below W.heap.size W (W.alloc (.cells #[.slice ap ps.length cp,.slice ar rows.length cr,.slice an' nodes.length cn] 51))):=(Below.refl _ _).alloc (Nat.le_refl _) _;have HO:=hid (Hq (Di W 51 (.slice ap ps.length cp) (.slice ar rows.length cr) (.slice an' nodes.length cn)))
 have HC:Hid (∀ w,Below W.heap.size W w->Calls Tryz.prog 134 #[.pointer (some ⟨s,0,none⟩),.slice a4 root.length c4,.int .i64 N,.agg #[.slice ap ps.length cp,.slice ar rows.length cr,.slice an' nodes.length cn]] w fun e w'=>∃ v,e=.returned (.tuple #[v,.bool (Eu q n root N ps rows nodes)])/\Below W.heap.size W w'):=fun w hb=>by
  by_cases hok:okb N root ps rows nodes
  ·obtain⟨h1,h2,h4,hsh⟩:=hok;obtain⟨M,rfl⟩:=Int.eq_ofNat_of_zero_le (show 0<=N by omega);rw[Int.toNat_natCast] at hsh;refine (Ue q n d b s c4 cp cr cn a4 ap ar an' root M ps rows nodes w (by omega) (by omega) h4 hsh ok (hs.keep hb) hpl hnl hf4 hfp hfr hfn ((hl4.below hb).mono hb.size) ((hp.below hb).mono hb.size) ((hr.below hb).mono hb.size) ((hn.below hb).mono hb.size)).mono ?_;rintro e w' ⟨g,B,rfl,hd⟩;rw[aD5 (by have:=ok.h23;omega) (by omega) (by omega) h4 hsh];exact⟨_,rfl,hb.trans (hd.2.2.1.mono hb.size)⟩
  ·refine (Xq s c4 cp cr cn a4 ap ar an' root N ps rows nodes w hN1 hN2 hpl hnl ((hp.below hb).mono hb.size) ((hn.below hb).mono hb.size) hok).mono ?_;rintro e w' ⟨rfl,hd⟩;rw[aE6 hok];exact⟨_,rfl,hb.trans (hd.mono hb.size)⟩
 clear hs hf4 hfp hfr hfn hl4 hp hr hn ok;generalize Eu q n root N ps rows nodes=t at *;go_enter Tryz.func88,Tryz.ntmps88;go_wp2_with fail;generalize W.alloc (.cells #[.slice ap ps.length cp,.slice ar rows.length cr,.slice an' nodes.length cn] 51)=W0 at *;have k0:=Mo HO.out;have k1:=Qt HO.out;have k2:=Mp HO.out;go_wp2_with fail;refine (HC.out W0 HB0.out).mono ?_;rintro e w1 ⟨v,rfl,hb1⟩;have HB1:=hid hb1;clear hb1;go_wp2_with fail;go_ret;exact⟨rfl,HB1.out⟩
open Go.RowKit Go.Sort
theorem aDc (d:Array Int) (m:Nat):Lib.compactUpTo d (m+1)=Lib.compactUpTo d m++(if Lib.keeps d m then [d[m]!] else []):=by
 unfold Lib.compactUpTo;rw[List.range_succ,List.filter_append,List.map_append]
 congr 1
 cases h:Lib.keeps d m <;> simp[h]
theorem Ox (d:Array Int) (hs:∀ i j,i<=j->j<d.size->d[i]! <= d[j]!):∀ m,m<=d.size->(Lib.compactUpTo d m).Pairwise (· < ·)/\(∀ x,x∈Lib.compactUpTo d m↔∃ j,j<m/\d[j]! = x)
 | 0,_=>⟨by simp[Lib.compactUpTo],fun x=>by simp[Lib.compactUpTo]⟩
 | m+1,h=>by
  obtain⟨h1,h2⟩:=Ox d hs m (by omega);rw[aDc]
  have hmem:∀ x,(∃ j,j<m+1/\d[j]! = x)↔(∃ j,j<m/\d[j]! = x)∨d[m]! = x:=fun x=>by
   constructor
   ·rintro⟨j,hj,e⟩;rcases Nat.lt_or_ge j m with h' | h'
    ·exact .inl ⟨j,h',e⟩
    ·rw[show j=m by omega] at e;exact .inr e
   ·rintro (⟨j,hj,e⟩ | e)
    ·exact⟨j,by omega,e⟩
    ·exact⟨m,by omega,e⟩
  cases hk:Lib.keeps d m with
  | true =>
   refine⟨?_,fun x=>?_⟩
   ·simp only[if_true];refine List.pairwise_append.2 ⟨h1,by simp,fun a ha b hb=>?_⟩;simp only[List.mem_singleton] at hb;subst hb;obtain⟨j,hj,rfl⟩:=(h2 a).1 ha
    have hne:d[m]! ≠ d[m-1]! := fun e=>by rw[Lib.keeps_neg (by omega) e] at hk;cases hk
    have a1:=hs j (m-1) (by omega) (by omega);have a2:=hs (m-1) m (by omega) (by omega);omega
   ·simp only[if_true,List.mem_append,List.mem_singleton];rw[hmem,h2];constructor
    ·rintro (h | h)
     ·exact .inl h
     ·exact .inr h.symm
    ·rintro (h | h)
     ·exact .inl h
     ·exact .inr h.symm
  | false =>
   have hm:0<m:=by
    rcases Nat.eq_zero_or_pos m with e | e
    ·rw[e,Lib.keeps_lt_one d 0 (by omega)] at hk;cases hk
    ·exact e
   have he:d[m]! = d[m-1]! := by
    rcases Classical.em (d[m]! = d[m-1]!) with e | e
    ·exact e
    ·rw[Lib.keeps_pos e] at hk;cases hk
   refine⟨by simpa using h1,fun x=>?_⟩;simp only[Bool.false_eq_true,if_false,List.append_nil];rw[hmem,h2];constructor
   ·exact .inl
   ·rintro (h | h)
    ·exact h
    ·exact⟨m-1,by omega,by rw[<- he];exact h⟩
theorem He (ps:List Int):OnceIs ps (Lib.compact (ps.mergeSort fun x y=>decide (x<=y))):=by
 have hp:=List.mergeSort_perm ps (fun x y=>decide (x<=y));have hs:(ps.mergeSort fun x y=>decide (x<=y)).Pairwise (fun x y=>decide (x<=y)=true):=List.pairwise_mergeSort (fun a b c h1 h2=>by simp at *;omega) (fun a b=>by simp;omega) ps;generalize (ps.mergeSort fun x y=>decide (x<=y))=zs at *
 have hs2:∀ i j,i<=j->j<zs.toArray.size->zs.toArray[i]! <= zs.toArray[j]! := fun i j hij hj=>by
  have hj':j<zs.length:=by simpa using hj
  rcases Nat.lt_or_ge i j with h | h
  ·have:=List.pairwise_iff_getElem.1 hs i j (by omega) hj' h;simp at this;simp[List.getElem!_eq_getElem?_getD,List.getElem?_eq_getElem hj',List.getElem?_eq_getElem (show i<zs.length by omega)];exact this
  ·rw[show i=j by omega];exact Int.le_refl _
 obtain⟨h1,h2⟩:=Ox zs.toArray hs2 zs.length (by simp);refine⟨h1,fun x=>(h2 x).trans ?_⟩;rw[<- hp.mem_iff];constructor
 ·rintro⟨j,hj,rfl⟩;simp[List.getElem!_eq_getElem?_getD,List.getElem?_eq_getElem hj]
 ·intro h;obtain⟨j,hj,e⟩:=List.getElem_of_mem h;exact⟨j,hj,by simp[List.getElem!_eq_getElem?_getD,List.getElem?_eq_getElem hj,e]⟩
theorem aAb (zs:List Int):(Lib.compact zs).length<=zs.length:=by
 unfold Lib.compact Lib.compactUpTo;rw[List.length_map];exact Nat.le_trans (List.length_filter_le _ _) (by simp)
theorem aAY{g cap:Nat}{e:TypeId}{xs:List Value} (h:w.ownsRow base e 1 (.slice (some ⟨g,0,none⟩) n cap) n xs) (hk:k<=n):w.ownsRow base e 1 (.slice (some ⟨g,0,none⟩) k cap) k (xs.take k):=by
 obtain⟨h1,h2⟩:=h;rcases h2 with ⟨e1,_⟩ | ⟨g',cap',cur,e1,r1,r2,r3,r4,r5,r6⟩
 ·cases e1
 ·cases e1;refine⟨by rw[List.length_take];omega,.inr ⟨g,cap,cur,rfl,r1,r2,by omega,r4,r5,?_⟩⟩;rw[<- r6,List.take_take]
  congr 1
  omega
theorem Xr (Bs cap:Nat) (a:Option Addr) (zs:List Int) (w:World) (hlen:zs.length<=17592186044400) (hc:w.cell? ⟨Bs,0,none⟩=some (.slice a zs.length cap)) (hI:RowB w.heap.size w a zs) :
  Calls Tryz.prog 122 #[.func (.func 157) #[] #[.pointer (some ⟨Bs,0,none⟩)]] w fun e w'=>∃ v,e=.returned v/\w'.ownsRow w.heap.size 3 1 v zs.length ((zs.mergeSort fun x y=>decide (x<=y)).map (Value.int .i64))/\Below w.heap.size w w':=by
 have HA:=hid (Tz Bs cap a zs w hlen hc hI);clear hc hI;go_enter Tryz.func122,Tryz.ntmps122;go_wp2_with fail;refine HA.out.mono ?_;rintro e w1 ⟨v,rfl,hrow,hnil,hb⟩;have HB:=hid hb;clear HA hb;rcases hrow.2 with ⟨rfl,hz⟩ | ⟨gb,cap',cur,rfl,hbase,hgb,r1,r2,r3,r4⟩
 ·obtain rfl:zs=[]:=hnil.1 rfl;have HS:=hid (Any.slices_Sort_int_none Tryz.lays189 none 0 w1);have HR:=hid hrow;clear hrow hnil hz;go_wp2_with fail;refine HS.out.mono ?_;rintro e w2 ⟨rfl,rfl⟩;go_wp2_with fail;go_ret;exact⟨_,rfl,by simpa using HR.out,HB.out⟩
 ·have hH:Holds (Value.int .i64) w1 gb 0 zs.toArray:=holds_of_block_i hgb (by simpa using r4);have HS:=hid (Tryz.sort_any gb 0 cap' zs w1 hH (Array.getElem?_eq_some_iff.1 hgb).1 (by omega))
  have HE:Hid (∀ (n:Nat) (os:Array Obj),(grow (putRow (Value.int .i64) (Sort.ahead w1 n) gb 0 (zs.mergeSort fun x y=>decide (x<=y)).toArray) os).ownsRow w.heap.size 3 1 (.slice (some ⟨gb,0,none⟩) zs.length cap') zs.length ((zs.mergeSort fun x y=>decide (x<=y)).map (Value.int .i64))/\Below w.heap.size w (grow (putRow (Value.int .i64) (Sort.ahead w1 n) gb 0 (zs.mergeSort fun x y=>decide (x<=y)).toArray) os)):=fun n os =>
   ⟨ownsRow_sorted_i (by simp) hbase hgb r1 r2 r3,HB.out.grown (grownBy_sorted_i _) HB.out.size (fun j hj=>by cases hj;exact hbase)⟩
  clear hrow hnil hbase hgb r1 r2 r3 r4 hH;go_wp2_with fail;refine HS.out.mono ?_;rintro e w2 ⟨rfl,n,os,rfl⟩;have HE2:=hid (HE.out n os);generalize grow (putRow (Value.int .i64) (Sort.ahead w1 n) gb 0 (zs.mergeSort fun x y=>decide (x<=y)).toArray) os=W2 at *;go_wp2_with fail;go_ret;exact⟨_,rfl,HE2.out.1,HE2.out.2⟩
theorem Uf (w:World):Calls Tryz.prog 91 #[.slice none 0 0] w fun e w'=>e=.returned (.slice none 0 0)/\w'=w:=by
 go_enter Tryz.func91,Tryz.ntmps91;go_wp2;go_ret;exact⟨rfl,rfl⟩
theorem Jc (base:Nat) (v:Value) (zs:List Int) (w:World) (hlen:zs.length<=17592186044400) (hv:w.ownsRow base 3 1 v zs.length (zs.map (Value.int .i64))) (hbw:base<=w.heap.size) :
  Calls Tryz.prog 91 #[v] w fun e w'=>∃ v',e=.returned v'/\w'.ownsRow base 3 1 v' (Lib.compact zs).length ((Lib.compact zs).map (Value.int .i64))/\Below base w w':=by
 rcases hv.2 with ⟨rfl,hz⟩ | ⟨gb,cap',cur,rfl,hbase,hgb,r1,r2,r3,r4⟩
 ·obtain rfl:zs=[]:=List.eq_nil_of_length_eq_zero hz;refine (Uf w).mono ?_;rintro e w' ⟨rfl,rfl⟩;exact⟨_,rfl,hv,Below.refl _ _⟩
 ·have hH:Holds (Value.int .i64) w gb 0 zs.toArray:=holds_of_block_i hgb (by simpa using r4);refine (Tryz.compact_any gb 0 cap' zs w hH (by omega) r1).mono ?_;rintro e w' ⟨rfl,q,rfl⟩
  have hl:(Lib.compact zs++List.replicate (zs.length-(Lib.compact zs).length) 0).length=zs.length:=by have:=aAb zs;simp;omega
  have ho:=ownsRow_sorted_i (n:=q) (os:=#[]) hl hbase hgb r1 r2 r3;have hg:=grownBy_sorted_i (w:=w) (g:=gb) (n:=q) (os:=#[]) (Lib.compact zs++List.replicate (zs.length-(Lib.compact zs).length) 0).toArray;rw[grow_empty] at ho hg;refine⟨_,rfl,?_,(Below.refl _ _).grown hg hbw (fun j hj=>by cases hj;exact hbase)⟩;have:=aAY ho (aAb zs)
  rwa [<- List.map_take,List.take_left'  rfl] at this
def rws (rows:List (List Int)) (a b:Nat):List (List Int):=(rows.drop a).take (b-a)
theorem Df (h:b<=rows.length):(rws rows a b).length=b-a:=by
 unfold rws;rw[List.length_take,List.length_drop];omega
theorem aE7 (h:k<b-a):rat (rws rows a b) k=rat rows (a+k):=by
 unfold rws;rw[Sl h,La]
theorem Ug (h2:m<=b):(rws rows a b).take (m-a)=rws rows a m:=by
 unfold rws;rw[List.take_take,show min (m-a) (b-a)=m-a by omega]
theorem Uh (h1:a<=m):(rws rows a b).drop (m-a)=rws rows m b:=by
 unfold rws;rw[List.drop_take,List.drop_drop,show a+(m-a)=m by omega,show b-a-(m-a)=b-m by omega]
theorem aE8 (rows:List (List Int)):rws rows 0 rows.length=rows:=by simp[rws]
def DR (q n:Nat) (rows:List (List Int)) (a b:Nat):List Int:=if a<b then rtf q n (b-a) (rws rows a b) else List.replicate 4 0
theorem aE9 (h:a<rows.length):DR q n rows a (a+1)=digl q n (0 :: rat rows a):=by
 unfold DR;rw[if_pos (by omega),show a+1-a=0+1 by omega];rw[rtf,if_pos (by rw[Df (by omega)];omega),aE7 (by omega),Nat.add_zero]
theorem aEA (h:b<=rows.length) (h2:2<=b-a):DR q n rows a b=digl q n (1 :: (DR q n rows a (a+lft (b-a))++DR q n rows (a+lft (b-a)) b)):=by
 obtain⟨_,l2,l3⟩:=zJ (b-a);have l3':=l3 h2;obtain⟨k,hk⟩:∃ k,b-a=k+1:=⟨b-a-1,by omega⟩
 have e1:DR q n rows a b=rtf q n (k+1) (rws rows a b):=by unfold DR;rw[if_pos (by omega),hk]
 have hl:=Df (a:=a) h;rw[e1,rtf,if_neg (by rw[hl];omega),hl]
 have t1:(rws rows a b).take (lft (b-a))=rws rows a (a+lft (b-a)):=by
  have:=Ug (rows:=rows) (a:=a) (m:=a+lft (b-a)) (b:=b) (by omega)
  rwa [Nat.add_sub_cancel_left] at this
 have t2:(rws rows a b).drop (lft (b-a))=rws rows (a+lft (b-a)) b:=by
  have:=Uh (rows:=rows) (a:=a) (m:=a+lft (b-a)) (b:=b) (by omega)
  rwa [Nat.add_sub_cancel_left] at this
 rw[t1,t2]
 have g1:rtf q n k (rws rows a (a+lft (b-a)))=DR q n rows a (a+lft (b-a)):=by unfold DR;rw[if_pos (by omega)];exact Ds q n (a+lft (b-a)-a) k _ (by rw[Df (by omega)];omega) (by rw[Df (by omega)];omega) (by omega)
 have g2:rtf q n k (rws rows (a+lft (b-a)) b)=DR q n rows (a+lft (b-a)) b:=by unfold DR;rw[if_pos (by omega)];exact Ds q n (b-(a+lft (b-a))) k _ (by rw[Df (by omega)];omega) (by rw[Df (by omega)];omega) (by omega)
 rw[g1,g2]
theorem aDd (h3:3<=q) {l:List Int} (hl:l.length=4) (e:elr q l=l):Dgst q l:=⟨hl,fun j hj=>by
 have h:=qQ (zat l j) q h3;have:zat (elr q l) j=zat l j % (q:Int):=by unfold elr;rw[kZ _ _ _ (by omega)]
 rw[e] at this;rw[this]
 exact h⟩
theorem Qu (h3:3<=q) (n:Nat) (rows:List (List Int)) (a b:Nat):Dgst q (DR q n rows a b):=by
 unfold DR;by_cases h:a<b
 ·rw[if_pos h];exact aDd h3 (Ek _ _ _ _ (by omega)) (aAn h3 n _ _ (by omega))
 ·rw[if_neg h];refine⟨by simp,fun j hj=>?_⟩;have:j=0∨j=1∨j=2∨j=3:=by omega
  rcases this with rfl | rfl | rfl | rfl <;> simp[zat] <;> omega
theorem Xs (q n:Nat) (rows:List (List Int)) (os:List Int):∀ (k a c:Nat),1<=c->c<=k->a+c<=rows.length->ndf q n k (rws rows a (a+c)) os (a:Int)=(hd2 os k a c).map (fun g=>DR q n rows g.1 g.2)
 | 0,_,_,h1,h2,_=>by omega
 | k+1,a,c,h1,h2,h3=>by
  have hl:(rws rows a (a+c)).length=c:=by rw[Df h3];omega
  rw[ndf,hl];by_cases hs:smb os (a:Int) ((a:Int)+(c:Int))=false
  ·rw[if_pos hs,Hu hs];simp only[List.map_cons,List.map_nil];unfold DR;rw[if_pos (by omega)];rw[Ds q n (a+c-a) (k+1) _ (by omega) (by omega) (by omega)]
  ·rw[if_neg hs];by_cases hc:c=1
   ·rw[if_pos hc,hd2,if_neg hs,if_pos hc];rfl
   ·rw[if_neg hc,Hw hs hc,List.map_append];obtain⟨_,l2,l3⟩:=zJ c;have l3':=l3 (by omega)
    have t1:(rws rows a (a+c)).take (lft c)=rws rows a (a+lft c):=by
     have:=Ug (rows:=rows) (a:=a) (m:=a+lft c) (b:=a+c) (by omega)
     rwa [Nat.add_sub_cancel_left] at this
    have t2:(rws rows a (a+c)).drop (lft c)=rws rows (a+lft c) (a+lft c+(c-lft c)):=by
     have:=Uh (rows:=rows) (a:=a) (m:=a+lft c) (b:=a+c) (by omega);rw[show a+lft c+(c-lft c)=a+c by omega]
     rwa [Nat.add_sub_cancel_left] at this
    rw[t1,t2,show (a:Int)+((lft c:Nat):Int)=((a+lft c:Nat):Int) by omega];rw[Xs q n rows os k a (lft c) (by omega) (by omega) (by omega),Xs q n rows os k (a+lft c) (c-lft c) (by omega) (by omega) (by omega)]
theorem Qv (q n:Nat) (rows:List (List Int)) (os:List Int) (h:1<=rows.length):ndf q n rows.length rows os 0=(hd2 os rows.length 0 rows.length).map (fun g=>DR q n rows g.1 g.2):=by
 have:=Xs q n rows os rows.length 0 rows.length h (Nat.le_refl _) (by omega)
 rwa [Nat.zero_add,aE8] at this
theorem Mr {q n:Nat} {rows:List (List Int)} {M:Nat->Nat->Option (List Int)}:∀ (c a b:Nat),b-a<=c->a<b->b<=rows.length->(∀ x,a<=x->x<b->M x (x+1)≠none)->Rdy q n (DR q n rows) M a b
 | 0,_,_,h1,h2,_,_=>by omega
 | c+1,a,b,h1,h2,h3,h=>by
  by_cases hc:b=a+1
  ·subst hc;exact .found (h a (Nat.le_refl _) (by omega))
  ·obtain⟨_,l2,l3⟩:=zJ (b-a);have l3':=l3 (by omega);refine .node (by omega) (aEA h3 (by omega)) ?_ ?_
   ·exact Mr c a (a+lft (b-a)) (by omega) (by omega) (by omega) (fun x h1 h2=>h x h1 (by omega))
   ·exact Mr c (a+lft (b-a)) b (by omega) (by omega) h3 (fun x h1 h2=>h x (by omega) h2)
theorem Aq{P:Program}{fn:Func}{p u:Tmp}{ty:TypeId} (h:fn.results=#[.cell p ty,.tmp u]) (tmps:Array Value) (w:World) (g:Nat) (tt:TypeId) (cs:Array Value) (fr:Nat × Nat) (d:TypeDesc)
  (hp:tmps.getD p undef=.pointer (some ⟨g,0,none⟩)) (hg:w.heap[g]?=some (.cells cs tt fr))
  (hu:P.underlying ty=some d) (hd:(match d with | .struct _ | .array _ _=>true | _=>false)=true) (hi:(P.info? ty).map (·.size)=some cs.size) :
  (results fn tmps).run P w=.ok (.tuple #[.agg cs,tmps.getD u undef]) w:=by
 have hp':tmps[p]?.getD undef=.pointer (some ⟨g,0,none⟩):=by simpa using hp
 simp[results,h,hp',asAddr,run_loadVar_row w g tt ty cs fr d hg hu hd hi]
def aDe (w:World) (B:Nat):Prop:=∀ c t f,w.heap[B]?≠some (.cells c t f)
theorem SlR.pair{r:List Int} (h:SlR w r u) (hO:∃ c f,w.heap[O]?=some (.cells c 51 f)) (hB:B=O∨aDe w B) (hp:Pair O B w w'):SlR w' r u :=
 h.blocks hp.size (fun b hb hn=>by
  have h1:=aGh hO hn;refine hp.block b hb h1 ?_;rcases hB with rfl | hB
  ·exact h1
  ·rintro rfl;obtain⟨c,t,f,h2,_⟩:=hn
   exact hB c t f h2)
theorem OwnR.pair{rs:List (List Int)} (h:OwnR base w u rs) (hO:∃ c f,w.heap[O]?=some (.cells c 51 f)) (hB:B=O∨aDe w B) (hp:Pair O B w w'):OwnR base w' u rs:=by
 obtain⟨vals,⟨h0,h1⟩,h2⟩:=h;refine⟨vals,⟨h0,?_⟩,fun j hj=>?_⟩
 ·rcases h1 with h1 | ⟨g,cap,cur,h3,h4,hg,h5⟩
  ·exact .inl h1
  ·have hgO:g≠O:=by
    rintro rfl;obtain⟨c,f,h6⟩:=hO;rw[hg] at h6;injection h6 with h6
    injection h6 with _ h6 _
    exact absurd h6 (by decide)
   refine .inr ⟨g,cap,cur,h3,h4,(hp.block g (Array.getElem?_eq_some_iff.1 hg).1 hgO ?_).trans hg,h5⟩;rcases hB with rfl | hB
   ·exact hgO
   ·rintro rfl;exact hB _ _ _ hg
 ·obtain⟨x,h3,h4⟩:=h2 j hj;exact⟨x,h3,h4.pair hO hB hp⟩
theorem aAc (h:Pair O B A w) (hg:w.grownBy w' (some B)):Pair O B A w' :=
 h.trans ⟨hg.os,hg.tape,hg.output,hg.size,fun k hk _ h2=>hg.block k hk (by intro e;injection e with e;exact h2 e)⟩
theorem Hf (h:Pair O B A w) (hg:Below A.heap.size w w') (hs:w.heap.size<=w'.heap.size):Pair O B A w' :=
 ⟨hg.os.trans h.os,hg.tape.trans h.tape,hg.output.trans h.output,Nat.le_trans h.size hs,fun k hk h1 h2=>(hg.block k hk).trans (h.block k hk h1 h2)⟩
theorem Ui (W:World) (base:Nat) (v u:Value) (rs:List (List Int)) (r:List Int) (hown:OwnR base W v rs) (hu:SlR W r u) (hlen:rs.length+1<=5864062014805) (hbase:base<=W.heap.size) :
  ∃ v' w',(Builtin.append_ #[36,36] 36 #[v,.slice (some ⟨W.heap.size,0,none⟩) 1 1]).run Tryz.prog (W.alloc (.cells #[u] 25))=.ok v' w'/\OwnR base w' v' (rs++[r])/\Below base W w'/\(∀ b,b<W.heap.size->By W b->w'.heap[b]?=W.heap[b]?)/\(∀ b,b<W.heap.size->some b≠v.ownBlock->w'.heap[b]?=W.heap[b]?)/\W.heap.size<=w'.heap.size:=by
 obtain⟨i0,hi,hz0,hz1,hz2⟩:=info_parts Tryz.infoSl;have hbw:Below W.heap.size W (W.alloc (.cells #[u] 25)):=(Below.refl _ _).alloc (Nat.le_refl _) _;have hown':=hown.keep hbw;have howb:=hown'.own;obtain⟨vals,h1,h2⟩:=hown';have hvl:vals.length=rs.length:=by have:=h1.1;omega
 obtain⟨v',w2,hr,hown2,hgrow,_⟩:=run_append_own (P:=Tryz.prog) (W.alloc (.cells #[u] 25)) base 36 36 25 i0 (.slice none 0 0) 1 24 Tryz.underlying36 hi hz0 hz1 hz2 rfl (by decide) v rs.length vals h1 ⟨W.heap.size,0,none⟩ 1 1 [u] rfl
  (by
   intro j t hj
   match j,hj with
   | 0,hj=>simp at hj;subst hj;simp[Addr.add])
  (by
   intro t ht;rw[List.mem_singleton.1 ht]
   exact hu.one) (by unfold maxLen;omega) (by omega) (by simp;omega)
 have hsz:W.heap.size<=w2.heap.size:=by have:=hgrow.size;simp at this;omega
 have hB:Below base (W.alloc (.cells #[u] 25)) w2:=(Below.refl base _).grown hgrow (by simp;omega) (fun k hk=>(howb k hk).1);have hN:∀ b,b<(W.alloc (.cells #[u] 25)).heap.size->By (W.alloc (.cells #[u] 25)) b->w2.heap[b]?=(W.alloc (.cells #[u] 25)).heap[b]?:=fun b hb hn=>hgrow.block b hb (fun e=>(howb b e.symm).2.2 hn);refine⟨v',w2,hr,⟨vals++[u],by rw[List.length_append];exact hown2,fun j hj=>?_⟩,(hbw.mono hbase).trans hB,fun b hb hn=>?_,fun b hb hne=>?_,hsz⟩
 ·rw[List.length_append] at hj;rw[Hp rs [r] j];by_cases hjr:j<rs.length
  ·rw[if_pos hjr,List.getElem?_append_left (by omega)];obtain⟨u',e1,e2⟩:=h2 j hjr;exact⟨u',e1,e2.blocks hgrow.size hN⟩
  ·rw[if_neg hjr,List.getElem?_append_right (by omega),hvl];obtain rfl:j=rs.length:=by simp at hj;omega
   rw[Nat.sub_self];exact⟨u,rfl,(hu.keep hbw).blocks hgrow.size hN⟩
 ·have e:=hbw.block b hb;obtain⟨c,t,f,h4,h5⟩:=hn;exact (hN b (by simp;omega) ⟨c,t,f,e.trans h4,h5⟩).trans e
 ·exact (hgrow.block b (by simp;omega) hne).trans (hbw.block b hb)
def aGf (q n:Nat) (rows:List (List Int)) (ps:List Int) (w:World) (e:Ending) (w':World):Prop :=
 ∃ os ap ar an' cp cr cn,e=.returned (.tuple #[.agg #[.slice ap os.length cp,.slice ar (shw q rows os).length cr,.slice an' (ndf q n rows.length rows os 0).length cn],.nilIface])/\OnceIs ps os/\SlR w' os (.slice ap os.length cp)/\OwnR w.heap.size w' (.slice ar (shw q rows os).length cr) (shw q rows os)/\OwnR w.heap.size w' (.slice an' (ndf q n rows.length rows os 0).length cn) (ndf q n rows.length rows os 0)/\Below w.heap.size w w'
def shV (b d v:Nat):Value:=.agg #[.pointer (some ⟨b,0,none⟩),.pointer (some ⟨d,0,none⟩),.int .i64 ((v / 2:Nat):Int),.int .i64 ((v-v / 2:Nat):Int)]
theorem Ms (x y:Value) (h:Int) (l:Nat) (w:World) (hl:l<=12):Calls Tryz.prog 80 #[.agg #[x,y,.int .i64 h,.int .i64 (l:Int)]] w fun e w'=>e=.returned (.int .i64 ((2 ^ l:Nat):Int))/\Below w.heap.size w w':=by
 have hb:Below w.heap.size w (w.alloc (.cells #[x,y,.int .i64 h,.int .i64 (l:Int)] 97)):=(Below.refl _ _).alloc (Nat.le_refl _) _;have HB:=hid hb;clear hb;have hc:l=0∨l=1∨l=2∨l=3∨l=4∨l=5∨l=6∨l=7∨l=8∨l=9∨l=10∨l=11∨l=12:=by omega
 clear hl;rcases hc with rfl | rfl | rfl | rfl | rfl | rfl | rfl | rfl | rfl | rfl | rfl | rfl | rfl <;>
 (go_enter Tryz.func80,Tryz.ntmps80
  go_wp2_with fail;go_ret
  exact⟨rfl,HB.out⟩)
theorem aDf (x y h:Value) (l:Nat) (w:World) (hl:l<=12):Calls Tryz.prog 87 #[.agg #[x,y,.int .i64 (l:Int),h]] w fun e w'=>e=.returned (.int .i64 ((2 ^ l:Nat):Int))/\Below w.heap.size w w':=by
 have hb:Below w.heap.size w (w.alloc (.cells #[x,y,.int .i64 (l:Int),h] 97)):=(Below.refl _ _).alloc (Nat.le_refl _) _;have HB:=hid hb;clear hb;have hc:l=0∨l=1∨l=2∨l=3∨l=4∨l=5∨l=6∨l=7∨l=8∨l=9∨l=10∨l=11∨l=12:=by omega
 clear hl;rcases hc with rfl | rfl | rfl | rfl | rfl | rfl | rfl | rfl | rfl | rfl | rfl | rfl | rfl <;>
 (go_enter Tryz.func87,Tryz.ntmps87
  go_wp2_with fail;go_ret
  exact⟨rfl,HB.out⟩)
theorem Fg (a:Int) (w:World):Calls Tryz.prog 32 #[.int .i64 a] w fun e w'=>e=.returned (.bool (decide (1<=a/\a<=64)))/\w'=w:=by
 by_cases h1:1<=a
 ·by_cases h2:a<=64
  ·have HE:Hid (decide (1<=a/\a<=64)=true):=decide_eq_true ⟨h1,h2⟩;rw[HE.out];go_enter Tryz.func32,Tryz.ntmps32;go_wp2_with fail;go_ret;exact⟨by first | rfl | simp[h1,h2],rfl⟩
  ·have HE:Hid (decide (1<=a/\a<=64)=false):=decide_eq_false (fun h=>h2 h.2);rw[HE.out];go_enter Tryz.func32,Tryz.ntmps32;go_wp2_with fail;go_ret;exact⟨by first | rfl | simp[h2],rfl⟩
 ·have HE:Hid (decide (1<=a/\a<=64)=false):=decide_eq_false (fun h=>h1 h.1);rw[HE.out];go_enter Tryz.func32,Tryz.ntmps32;go_wp2_with fail;go_ret;exact⟨by first | rfl | simp[h1],rfl⟩
theorem Uj (d:Nat) (v:Int) (w:World) (hv:v<0∨12<v):Calls Tryz.prog 36 #[.pointer (some ⟨d,0,none⟩),.int .i64 v] w fun e w'=>e=.returned (.tuple #[.agg #[.pointer none,.pointer none,.int .i64 0,.int .i64 0],.bool false])/\Below w.heap.size w w':=by
 have HB:Hid (Below w.heap.size w (w.alloc (.cells #[.pointer none,.pointer none,.int .i64 0,.int .i64 0] 97))):=(Below.refl _ _).alloc (Nat.le_refl _) _;by_cases h0:v<0
 ·clear hv;go_enter Tryz.func36,Tryz.ntmps36;go_wp2_with fail;refine bodyPost_ret (Aq rfl _ _ w.heap.size 97 #[.pointer none,.pointer none,.int .i64 0,.int .i64 0] (0,0) _ rfl (heap_alloc_new w _) Tryz.underlying97 rfl (by kernel_rfl)) rfl ?_;exact⟨rfl,HB.out⟩
 ·have h1:12<v:=by omega
  clear hv;go_enter Tryz.func36,Tryz.ntmps36;go_wp2_with fail;refine bodyPost_ret (Aq rfl _ _ w.heap.size 97 #[.pointer none,.pointer none,.int .i64 0,.int .i64 0] (0,0) _ rfl (heap_alloc_new w _) Tryz.underlying97 rfl (by kernel_rfl)) rfl ?_;exact⟨rfl,HB.out⟩
theorem Hg (d b v N:Nat) (r s:Int) (w:World) (hd:DomAt w d b (N:Int) r s) (hv:v<=12) (hN:N<=65536) :
  Calls Tryz.prog 36 #[.pointer (some ⟨d,0,none⟩),.int .i64 (v:Int)] w fun e w'=>e=.returned (.tuple #[shV b d v,.bool (decide (2 ^ (v-v / 2)<=N / 2))])/\Below w.heap.size w w':=by
 obtain⟨R,hR⟩:=exE (w.heap.size);obtain⟨W0,hW0⟩:=exE (w.alloc (.cells #[.pointer none,.pointer none,.int .i64 0,.int .i64 0] 97));have hB0:=blA hW0;have hQ0:W0.rowIs R 97 4 (Kk (.pointer none) (.pointer none) (.int .i64 0) (.int .i64 0)):=by rw[hW0,hR];exact Fl w _ _ _ _ _
 have hd0:DomAt W0 d b (N:Int) r s:=hd.below hB0 hd.lt;obtain⟨hi,hhi⟩:=exE (v / 2);obtain⟨lo,hlo⟩:=exE (v-v / 2);have q1:(v:Int).tdiv 2=(hi:Int):=by rw[Int.tdiv_eq_ediv_of_nonneg (by omega)];omega
 have q0:(v:Int) / 2=(hi:Int):=by omega
 have q2:IntKind.i64.wrap (hi:Int)=(hi:Int):=by rw[IntKind.wrap_i64];omega
 have q3:(v:Int)-(hi:Int)=(lo:Int):=by omega
 have q4:IntKind.i64.wrap (lo:Int)=(lo:Int):=by rw[IntKind.wrap_i64];omega
 have q5:IntKind.i64.wrap ((v:Int)-(hi:Int))=(lo:Int):=by rw[q3,q4]
 obtain⟨W1,hW1⟩:=exE (W0.alloc (.cells #[.pointer (some ⟨b,0,none⟩),.pointer (some ⟨d,0,none⟩),.int .i64 (hi:Int),.int .i64 (lo:Int)] 97));obtain⟨G,hG⟩:=exE (W0.heap.size);have hB1:=blA hW1;have hQ1:W1.rowIs G 97 4 (Kk (.pointer (some ⟨b,0,none⟩)) (.pointer (some ⟨d,0,none⟩)) (.int .i64 (hi:Int)) (.int .i64 (lo:Int))):=by rw[hW1,hG];exact Fl W0 _ _ _ _ _
 have hQR:W1.rowIs R 97 4 (Kk (.pointer none) (.pointer none) (.int .i64 0) (.int .i64 0)):=hQ0.of_block (hB1.block R hQ0.lt);have hGR:G≠R:=by have:=hQ0.lt;omega
 have HRW:Hid (w.heap.size<=R):=by unfold Hid;omega
 have HFI:=hid (Vm d b (N:Int) r s W0 hd0);have hd1:=hd0.below hB1 hd0.lt;have hb01:Below w.heap.size w W1:=hB0.trans (hB1.mono hB0.size)
 have HSZ:Hid (∀ W,Below W1.heap.size W1 W->Calls Tryz.prog 73 #[.pointer (some ⟨d,0,none⟩)] W fun e w'=>e=.returned (.int .i64 (N:Int))/\Below W1.heap.size W1 w'):=fun W hW=>by refine (Fk d b (N:Int) r s W (hd1.below hW hd1.lt)).mono ?_;rintro e w' ⟨rfl,rfl⟩;exact⟨rfl,hW⟩
 obtain⟨X,hX⟩:=exE (2 ^ lo)
 have HWI:Hid (∀ W,Below W1.heap.size W1 W->Calls Tryz.prog 80 #[.agg #[.pointer (some ⟨b,0,none⟩),.pointer (some ⟨d,0,none⟩),.int .i64 (hi:Int),.int .i64 (lo:Int)]] W fun e w'=>e=.returned (.int .i64 (X:Int))/\Below W1.heap.size W1 w'):=fun W hW=>by rw[hX];refine (Ms _ _ _ lo W (by omega)).mono ?_;rintro e w' ⟨rfl,h⟩;exact⟨rfl,hW.trans (h.mono hW.size)⟩
 have HK:Hid (∀ W,Below W1.heap.size W1 W->W.cell? ⟨G,0,none⟩=some (.pointer (some ⟨b,0,none⟩))/\W.cell? ⟨G,1,none⟩=some (.pointer (some ⟨d,0,none⟩))/\W.cell? ⟨G,2,none⟩=some (.int .i64 (hi:Int))/\W.cell? ⟨G,3,none⟩=some (.int .i64 (lo:Int))):=fun W hW=>by have h:=hQ1.of_block (hW.block G hQ1.lt);exact⟨h.cell (i:=0) (by omega),h.cell (i:=1) (by omega),h.cell (i:=2) (by omega),h.cell (i:=3) (by omega)⟩
 have HRR:Hid (∀ W,Below W1.heap.size W1 W->W.rowIs R 97 4 (Kk (.pointer none) (.pointer none) (.int .i64 0) (.int .i64 0))):=fun W hW=>hQR.of_block (hW.block R hQR.lt);have n0:(N:Int).tdiv 2=((N / 2:Nat):Int):=by rw[Int.tdiv_eq_ediv_of_nonneg (by omega)];omega
 have n1:(N:Int) / 2=((N / 2:Nat):Int):=by omega
 have n2:IntKind.i64.wrap ((N / 2:Nat):Int)=((N / 2:Nat):Int):=by rw[IntKind.wrap_i64];omega
 have HSV:Hid (shV b d v=.agg #[.pointer (some ⟨b,0,none⟩),.pointer (some ⟨d,0,none⟩),.int .i64 (hi:Int),.int .i64 (lo:Int)]):=by unfold Hid shV;rw[hhi,hlo]
 rw[HSV.out,<- hlo,<- hX];have HB01:=hid hb01;generalize N / 2=H at *;have hdw:Below W1.heap.size W1 W1.drew:=(Below.refl _ _).drew;clear hd hd0 hd1 hQ0 hQ1 hQR hB0 hB1 hb01 hhi hlo hX;go_enter Tryz.func36,Tryz.ntmps36;go_wp2_with fail;rw[<- hW0,<- hR];have HW1:=hid hW1;have HG:=hid hG;clear hW0 hW1 hG hR;refine HFI.out.mono ?_;rintro e w1 ⟨rfl,hw1⟩;have hw1':=hw1.symm;subst hw1';clear hw1;go_wp2_with fail;rw[<- HG.out,<- HW1.out];clear HW1 HG
 have HFA:Hid (∀ W,Below W1.heap.size W1 W->(W.cell? ⟨G,0,none⟩=some (.pointer (some ⟨b,0,none⟩))/\W.cell? ⟨G,1,none⟩=some (.pointer (some ⟨d,0,none⟩))/\W.cell? ⟨G,2,none⟩=some (.int .i64 (hi:Int))/\W.cell? ⟨G,3,none⟩=some (.int .i64 (lo:Int)))/\(W.cell? ⟨R,0,none⟩=some (.pointer none)/\W.cell? ⟨R,1,none⟩=some (.pointer none)/\W.cell? ⟨R,2,none⟩=some (.int .i64 0)/\W.cell? ⟨R,3,none⟩=some (.int .i64 0))/\(W.frozen? ⟨R,0,none⟩=false/\W.frozen? ⟨R,1,none⟩=false/\W.frozen? ⟨R,2,none⟩=false/\W.frozen? ⟨R,3,none⟩=false)):=fun W hW =>
  ⟨HK.out W hW,⟨(HRR.out W hW).cell (i:=0) (by omega),(HRR.out W hW).cell (i:=1) (by omega),(HRR.out W hW).cell (i:=2) (by omega),(HRR.out W hW).cell (i:=3) (by omega)⟩,(HRR.out W hW).frozen 0,(HRR.out W hW).frozen 1,(HRR.out W hW).frozen 2,(HRR.out W hW).frozen 3⟩
 obtain⟨⟨g0,g1,g2,g3⟩,⟨r0,r1,r2,r3⟩,u0,u1,u2,u3⟩:=HFA.out _ hdw
 go_region_with (first
   | (go_at_call 73;refine (HSZ.out _ (by assumption)).mono ?_;rintro e w' ⟨rfl,hb'⟩;obtain⟨⟨g0,g1,g2,g3⟩,⟨r0,r1,r2,r3⟩,u0,u1,u2,u3⟩:=HFA.out _ hb')
   | (go_at_call 80;refine (HWI.out _ (by assumption)).mono ?_;rintro e w' ⟨rfl,hb'⟩;obtain⟨⟨g0,g1,g2,g3⟩,⟨r0,r1,r2,r3⟩,u0,u1,u2,u3⟩:=HFA.out _ hb'))
 all_goals
  go_wp2_with fail;refine bodyPost_ret (Aq rfl _ _ R 97 #[.pointer (some ⟨b,0,none⟩),.pointer (some ⟨d,0,none⟩),.int .i64 (hi:Int),.int .i64 (lo:Int)] (0,0) _ rfl (Kl (Km (HRR.out _ (by assumption)) _ _ _ _)) Tryz.underlying97 rfl (by kernel_rfl)) rfl ?_;exact⟨rfl,((((HB01.out.trans ((by assumption:Below W1.heap.size W1 _).mono HB01.out.size)).setCell (p:=⟨R,0,none⟩) HRW.out _).setCell (p:=⟨R,1,none⟩) HRW.out _).setCell (p:=⟨R,2,none⟩) HRW.out _).setCell (p:=⟨R,3,none⟩) HRW.out _⟩
theorem Cv (x m b:Nat) (hb:b<256):x &&& (256*m+b)=256*(x / 256 &&& m)+(x % 256 &&& b):=by
 have h1:(x &&& (256*m+b)) / 2 ^ 8=x / 2 ^ 8 &&& (256*m+b) / 2 ^ 8:=Nat.and_div_two_pow;have h2:(x &&& (256*m+b)) % 2 ^ 8=(x % 2 ^ 8) &&& ((256*m+b) % 2 ^ 8):=Nat.and_mod_two_pow;rw[show (256*m+b) / 2 ^ 8=m from by omega] at h1;rw[show (256*m+b) % 2 ^ 8=b from by omega] at h2;rw[show (2:Nat) ^ 8=256 from rfl] at h1 h2;rw[<- h1,<- h2];exact (Nat.div_add_mod _ 256).symm
def rpb (b:Nat):Nat->Nat
 | 0=>0
 | k+1=>256*rpb b k+b
def bm (g:Nat->Nat):Nat->Nat->Nat
 | 0,_=>0
 | k+1,n=>256*bm g k (n / 256)+g (n % 256)
theorem aDg{g:Nat->Nat} (hg:∀ c,c<256->g c<256) (k n:Nat):bm g (k+1) n / 256=bm g k (n / 256):=by
 have:=hg (n % 256) (by omega);simp only[bm];omega
theorem Xt{g:Nat->Nat} (hg:∀ c,c<256->g c<256) (k n:Nat):bm g (k+1) n % 256=g (n % 256):=by
 have:=hg (n % 256) (by omega);simp only[bm];omega
def fb1 (c:Nat):Nat:=(c / 2 &&& 85)+(c &&& 85)
def fb2 (c:Nat):Nat:=(c / 4 &&& 51)+(c &&& 51)
def fb3 (c:Nat):Nat:=c % 16+c / 16
theorem t1:∀ (a:Fin 2) (c:Fin 256),(128*a.val+c.val / 2) &&& 85=c.val / 2 &&& 85:=by decide +kernel
theorem t2:∀ (a:Fin 4) (c:Fin 256),(64*a.val+c.val / 4) &&& 51=c.val / 4 &&& 51:=by decide +kernel
theorem t3:∀ (c:Fin 256),fb1 c.val<256/\fb2 (fb1 c.val) % 16<=4/\fb2 (fb1 c.val) / 16<=4/\fb3 (fb2 (fb1 c.val))<=8:=by decide +kernel
theorem t4:∀ (c:Fin 256),(fb3 (fb2 (fb1 c.val))=0->c.val=0):=by decide +kernel
theorem t5:∀ (c:Fin 256),(fb3 (fb2 (fb1 c.val))=1->c.val=1∨c.val=2∨c.val=4∨c.val=8∨c.val=16∨c.val=32∨c.val=64∨c.val=128):=by decide +kernel
theorem st1 (k n:Nat):(n / 2 &&& rpb 85 k)+(n &&& rpb 85 k)=bm fb1 k n:=by
 induction k generalizing n with
 | zero=>simp[rpb,bm]
 | succ k ih =>
  simp only[rpb,bm];rw[Cv _ _ _ (by omega),Cv _ _ _ (by omega),<- ih (n / 256),show n / 2 / 256=n / 256 / 2 from by omega];have h:=t1 ⟨n / 256 % 2,by omega⟩ ⟨n % 256,by omega⟩;simp only at h;rw[show n / 2 % 256=128*(n / 256 % 2)+n % 256 / 2 from by omega,h];unfold fb1;omega
theorem st2 (g:Nat->Nat) (hg:∀ c,c<256->g c<256) (k n:Nat):(bm g k n / 4 &&& rpb 51 k)+(bm g k n &&& rpb 51 k)=bm (fun c=>fb2 (g c)) k n:=by
 induction k generalizing n with
 | zero=>simp[rpb,bm]
 | succ k ih =>
  have e1:=aDg hg k n;have e2:=Xt hg k n;have hs:bm (fun c=>fb2 (g c)) (k+1) n=256*bm (fun c=>fb2 (g c)) k (n / 256)+fb2 (g (n % 256)):=rfl;rw[hs,<- ih (n / 256),<- e1,<- e2];generalize bm g (k+1) n=x;simp only[rpb];rw[Cv _ _ _ (by omega),Cv _ _ _ (by omega),show x / 4 / 256=x / 256 / 4 from by omega];have h:=t2 ⟨x / 256 % 4,by omega⟩ ⟨x % 256,by omega⟩;simp only at h;rw[show x / 4 % 256=64*(x / 256 % 4)+x % 256 / 4 from by omega,h];unfold fb2;omega
theorem st3 (g:Nat->Nat) (hg:∀ c,c<256->g c % 16<=4/\g c / 16<=4) (k n:Nat):(bm g k n / 16+bm g k n) &&& rpb 15 k=bm (fun c=>fb3 (g c)) k n:=by
 have hg2:∀ c,c<256->g c<256:=fun c hc=>by have:=hg c hc;omega
 induction k generalizing n with
 | zero=>simp[rpb,bm]
 | succ k ih =>
  have e1:=aDg hg2 k n;have e2:=Xt hg2 k n;have hs:bm (fun c=>fb3 (g c)) (k+1) n=256*bm (fun c=>fb3 (g c)) k (n / 256)+fb3 (g (n % 256)):=rfl
  have hlow:bm g k (n / 256) % 16<=4:=by
   cases k with
   | zero=>simp[bm]
   | succ k =>
    have:=Xt hg2 k (n / 256);have h9:=hg (n / 256 % 256) (by omega);omega
  have hc:=hg (n % 256) (by omega);rw[hs,<- ih (n / 256)];rw[<- e1] at hlow ⊢;rw[<- e2] at hc ⊢;generalize bm g (k+1) n=x at *;simp only[rpb];rw[Cv _ _ _ (by omega)];have d1:(x / 16+x) / 256=x / 256 / 16+x / 256:=by omega
  have d2:(x / 16+x) % 256 % 16=fb3 (x % 256):=by unfold fb3;omega
  rw[d1];have d3:(x / 16+x) % 256 &&& 15=(x / 16+x) % 256 % 16:=Nat.and_two_pow_sub_one_eq_mod _ 4;rw[d3,d2]
def fbp (c:Nat):Nat:=fb3 (fb2 (fb1 c))
theorem Ea (c:Nat) (h:c<256):fbp c<=8:=(t3 ⟨c,h⟩).2.2.2
theorem aET{g:Nat->Nat} (hg:∀ c,c<256->g c<=m) (n:Nat) (_:m<=68):bm g 8 n<=m*72340172838076673:=by
 simp only[bm];have h0:=hg (n % 256) (by omega);have h1:=hg (n / 256 % 256) (by omega);have h2:=hg (n / 256 / 256 % 256) (by omega);have h3:=hg (n / 256 / 256 / 256 % 256) (by omega);have h4:=hg (n / 256 / 256 / 256 / 256 % 256) (by omega);have h5:=hg (n / 256 / 256 / 256 / 256 / 256 % 256) (by omega);have h6:=hg (n / 256 / 256 / 256 / 256 / 256 / 256 % 256) (by omega);have h7:=hg (n / 256 / 256 / 256 / 256 / 256 / 256 / 256 % 256) (by omega);omega
theorem aFZ (n:Nat):pn3 (pn2 (pn1 n))=bm fbp 8 n:=by
 have a1:pn1 n=bm fb1 8 n:=by
  unfold pn1;have h:=st1 8 n;rw[show rpb 85 8=6148914691236517205 from rfl] at h;rw[h];have hh:∀ c,c<256->fb1 c<=255:=fun c hc=>by have:=(t3 ⟨c,hc⟩).1;simp only at this;omega
  apply Nat.mod_eq_of_lt;simp only[bm];have h0:=hh (n % 256) (by omega);have h1:=hh (n / 256 % 256) (by omega);have h2:=hh (n / 256 / 256 % 256) (by omega);have h3:=hh (n / 256 / 256 / 256 % 256) (by omega);have h4:=hh (n / 256 / 256 / 256 / 256 % 256) (by omega);have h5:=hh (n / 256 / 256 / 256 / 256 / 256 % 256) (by omega);have h6:=hh (n / 256 / 256 / 256 / 256 / 256 / 256 % 256) (by omega);have h7:=hh (n / 256 / 256 / 256 / 256 / 256 / 256 / 256 % 256) (by omega);omega
 have hn:∀ c,c<256->fb2 (fb1 c) % 16<=4/\fb2 (fb1 c) / 16<=4:=fun c hc=>⟨(t3 ⟨c,hc⟩).2.1,(t3 ⟨c,hc⟩).2.2.1⟩
 have a2:pn2 (pn1 n)=bm (fun c=>fb2 (fb1 c)) 8 n:=by rw[a1];unfold pn2;have h:=st2 fb1 (fun c hc=>(t3 ⟨c,hc⟩).1) 8 n;rw[show rpb 51 8=3689348814741910323 from rfl] at h;rw[h];have:=aET (g:=fun c=>fb2 (fb1 c)) (m:=68) (fun c hc=>by have:=hn c hc;show fb2 (fb1 c)<=68;omega) n (by omega);exact Nat.mod_eq_of_lt (by omega)
 rw[a2];unfold pn3;have h:=st3 (fun c=>fb2 (fb1 c)) hn 8 n;rw[show rpb 15 8=1085102592571150095 from rfl] at h;have:=aET (g:=fun c=>fb2 (fb1 c)) (m:=68) (fun c hc=>by have:=hn c hc;show fb2 (fb1 c)<=68;omega) n (by omega);rw[Nat.mod_eq_of_lt (by omega),h];rfl
theorem aGg (b0 b1 b2 b3 b4 b5 b6 b7:Nat) (h0:b0<=8) (h1:b1<=8) (h2:b2<=8) (h3:b3<=8) (h4:b4<=8) (h5:b5<=8) (h6:b6<=8) (h7:b7<=8) (x:Nat) (hx:x=256*(256*(256*(256*(256*(256*(256*b7+b6)+b5)+b4)+b3)+b2)+b1)+b0) :
  pn6 (pn5 (pn4 x)) % 128=b0+b1+b2+b3+b4+b5+b6+b7:=by
 have e4:pn4 x=256*(256*(256*(256*(256*(256*(256*b7+(b6+b7))+(b5+b6))+(b4+b5))+(b3+b4))+(b2+b3))+(b1+b2))+(b0+b1):=by unfold pn4;omega
 rw[e4];clear e4 hx
 have e5:pn5 (256*(256*(256*(256*(256*(256*(256*b7+(b6+b7))+(b5+b6))+(b4+b5))+(b3+b4))+(b2+b3))+(b1+b2))+(b0+b1))=256*(256*(256*(256*(256*(256*(256*b7+(b6+b7))+(b5+b6+b7))+(b4+b5+b6+b7))+(b3+b4+b5+b6))+(b2+b3+b4+b5))+(b1+b2+b3+b4))+(b0+b1+b2+b3):=by
  unfold pn5
  have d:(256*(256*(256*(256*(256*(256*(256*b7+(b6+b7))+(b5+b6))+(b4+b5))+(b3+b4))+(b2+b3))+(b1+b2))+(b0+b1)) / 65536=256*(256*(256*(256*(256*b7+(b6+b7))+(b5+b6))+(b4+b5))+(b3+b4))+(b2+b3):=by rw[show (65536:Nat)=256*256 from rfl,<- Nat.div_div_eq_div_mul];omega
  rw[d,Nat.mod_eq_of_lt (by omega)];omega
 rw[e5];clear e5;unfold pn6
 have d:(256*(256*(256*(256*(256*(256*(256*b7+(b6+b7))+(b5+b6+b7))+(b4+b5+b6+b7))+(b3+b4+b5+b6))+(b2+b3+b4+b5))+(b1+b2+b3+b4))+(b0+b1+b2+b3)) / 4294967296=256*(256*(256*b7+(b6+b7))+(b5+b6+b7))+(b4+b5+b6+b7):=by rw[show (4294967296:Nat)=256*256*256*256 from rfl,<- Nat.div_div_eq_div_mul,<- Nat.div_div_eq_div_mul,<- Nat.div_div_eq_div_mul];omega
 rw[Nat.mod_mod_of_dvd _ (by decide),d];clear d;generalize 256*(256*(256*(256*(256*(256*b7+(b6+b7))+(b5+b6+b7))+(b4+b5+b6+b7))+(b3+b4+b5+b6))+(b2+b3+b4+b5))+(b1+b2+b3+b4)=AA;generalize 256*(256*b7+(b6+b7))+(b5+b6+b7)=BB;omega
theorem aEB (hn:n<18446744073709551616) (h:pnz n=1):∃ k,n=2 ^ k:=by
 obtain⟨c0,e0⟩:∃ c,c=n % 256:=⟨_,rfl⟩
 obtain⟨c1,e1⟩:∃ c,c=n / 256 % 256:=⟨_,rfl⟩
 obtain⟨c2,e2⟩:∃ c,c=n / 256 / 256 % 256:=⟨_,rfl⟩
 obtain⟨c3,e3⟩:∃ c,c=n / 256 / 256 / 256 % 256:=⟨_,rfl⟩
 obtain⟨c4,e4⟩:∃ c,c=n / 256 / 256 / 256 / 256 % 256:=⟨_,rfl⟩
 obtain⟨c5,e5⟩:∃ c,c=n / 256 / 256 / 256 / 256 / 256 % 256:=⟨_,rfl⟩
 obtain⟨c6,e6⟩:∃ c,c=n / 256 / 256 / 256 / 256 / 256 / 256 % 256:=⟨_,rfl⟩
 obtain⟨c7,e7⟩:∃ c,c=n / 256 / 256 / 256 / 256 / 256 / 256 / 256 % 256:=⟨_,rfl⟩
 have hs:pnz n=fbp c0+fbp c1+fbp c2+fbp c3+fbp c4+fbp c5+fbp c6+fbp c7:=by unfold pnz;rw[aFZ];refine aGg _ _ _ _ _ _ _ _ (Ea _ (by omega)) (Ea _ (by omega)) (Ea _ (by omega)) (Ea _ (by omega)) (Ea _ (by omega)) (Ea _ (by omega)) (Ea _ (by omega)) (Ea _ (by omega)) _ ?_;simp only[bm,<- e0,<- e1,<- e2,<- e3,<- e4,<- e5,<- e6,<- e7];omega
 rw[h] at hs;have hz:∀ c,c<256->fbp c=0->c=0:=fun c hc h0=>t4 ⟨c,hc⟩ h0
 have ho:∀ c,c<256->fbp c=1->∃ j,j<8/\c=2 ^ j:=fun c hc h1=>by
  rcases t5 ⟨c,hc⟩ h1 with h | h | h | h | h | h | h | h
  ·exact⟨0,by omega,h⟩
  ·exact⟨1,by omega,h⟩
  ·exact⟨2,by omega,h⟩
  ·exact⟨3,by omega,h⟩
  ·exact⟨4,by omega,h⟩
  ·exact⟨5,by omega,h⟩
  ·exact⟨6,by omega,h⟩
  ·exact⟨7,by omega,h⟩
 have l0:c0<256:=by omega
 have l1:c1<256:=by omega
 have l2:c2<256:=by omega
 have l3:c3<256:=by omega
 have l4:c4<256:=by omega
 have l5:c5<256:=by omega
 have l6:c6<256:=by omega
 have l7:c7<256:=by omega
 have hN:n=c0+256*c1+65536*c2+16777216*c3+4294967296*c4+1099511627776*c5+281474976710656*c6+72057594037927936*c7:=by omega
 clear e0 e1 e2 e3 e4 e5 e6 e7 h hn;have z0:=hz c0 l0;have z1:=hz c1 l1;have z2:=hz c2 l2;have z3:=hz c3 l3;have z4:=hz c4 l4;have z5:=hz c5 l5;have z6:=hz c6 l6;have z7:=hz c7 l7;have o0:=ho c0 l0;have o1:=ho c1 l1;have o2:=ho c2 l2;have o3:=ho c3 l3;have o4:=ho c4 l4;have o5:=ho c5 l5;have o6:=ho c6 l6;have o7:=ho c7 l7;generalize fbp c0=b0 at *;generalize fbp c1=b1 at *;generalize fbp c2=b2 at *;generalize fbp c3=b3 at *;generalize fbp c4=b4 at *;generalize fbp c5=b5 at *;generalize fbp c6=b6 at *;generalize fbp c7=b7 at *;have hc:b0=1∨b1=1∨b2=1∨b3=1∨b4=1∨b5=1∨b6=1∨b7=1:=by omega
 rcases hc with h | h | h | h | h | h | h | h
 ·obtain⟨j,_,hj⟩:=o0 h;exact⟨j,by rw[hN,z1 (by omega),z2 (by omega),z3 (by omega),z4 (by omega),z5 (by omega),z6 (by omega),z7 (by omega),hj];omega⟩
 ·obtain⟨j,_,hj⟩:=o1 h;exact⟨j+8,by rw[hN,z0 (by omega),z2 (by omega),z3 (by omega),z4 (by omega),z5 (by omega),z6 (by omega),z7 (by omega),hj,Nat.pow_add];omega⟩
 ·obtain⟨j,_,hj⟩:=o2 h;exact⟨j+16,by rw[hN,z0 (by omega),z1 (by omega),z3 (by omega),z4 (by omega),z5 (by omega),z6 (by omega),z7 (by omega),hj,Nat.pow_add];omega⟩
 ·obtain⟨j,_,hj⟩:=o3 h;exact⟨j+24,by rw[hN,z0 (by omega),z1 (by omega),z2 (by omega),z4 (by omega),z5 (by omega),z6 (by omega),z7 (by omega),hj,Nat.pow_add];omega⟩
 ·obtain⟨j,_,hj⟩:=o4 h;exact⟨j+32,by rw[hN,z0 (by omega),z1 (by omega),z2 (by omega),z3 (by omega),z5 (by omega),z6 (by omega),z7 (by omega),hj,Nat.pow_add];omega⟩
 ·obtain⟨j,_,hj⟩:=o5 h;exact⟨j+40,by rw[hN,z0 (by omega),z1 (by omega),z2 (by omega),z3 (by omega),z4 (by omega),z6 (by omega),z7 (by omega),hj,Nat.pow_add];omega⟩
 ·obtain⟨j,_,hj⟩:=o6 h;exact⟨j+48,by rw[hN,z0 (by omega),z1 (by omega),z2 (by omega),z3 (by omega),z4 (by omega),z5 (by omega),z7 (by omega),hj,Nat.pow_add];omega⟩
 ·obtain⟨j,_,hj⟩:=o7 h;exact⟨j+56,by rw[hN,z0 (by omega),z1 (by omega),z2 (by omega),z3 (by omega),z4 (by omega),z5 (by omega),z6 (by omega),hj,Nat.pow_add];omega⟩
theorem Xu (n:Nat) (w:World) (h1:n<18446744073709551616):Calls Tryz.prog 98 #[.int .u64 n] w fun e w'=>e=.returned (.int .i64 (pnz n))/\w'=w:=by
 have HZ:=hid (Yo n h1);go_enter Tryz.func98,Tryz.ntmps98;go_wp2;go_ret;exact⟨xJ HZ.out,rfl⟩
open Go.RowKit Go.Shelf
theorem zU (h:TabAt 1 Lib.deBruijn64tab w) (hb:Below w.heap.size w w'):TabAt 1 Lib.deBruijn64tab w' :=
 fun j hj=>(hb.cell (p:=⟨1,j,none⟩) (Js (h j hj))).trans (h j hj)
theorem aF9 (x:Nat) (hx0:x≠0) (hx:x<18446744073709551616) (w:World) (hT:TabAt 1 Lib.deBruijn64tab w) :
  Calls Tryz.prog 69 #[.int .u64 x] w fun e w'=>∃ S m:Nat,e=.returned (.int .i64 S)/\S<64/\x=2 ^ S*(2*m+1)/\w'=w:=by
 refine (Any7.bits_TrailingZeros Tryz.laysTz x (by omega) w (fun _=>hT)).mono fun e w' ⟨he,hw⟩=>?_;obtain⟨m,h1,h2⟩:=Lib.ctzFrom_spec 64 x (by omega) hx;refine⟨Lib.ctz 64 x,m,he,?_,?_,hw⟩
 ·unfold Lib.ctz;rw[if_neg hx0];exact h2
 ·unfold Lib.ctz;rw[if_neg hx0];exact h1
theorem Uk (n:Nat) (w:World) (h1:n<18446744073709551616) :
  Calls Tryz.prog 50 #[.int .u64 n] w fun e w'=>e=.returned (.int .i64 (pnz n))/\w'=w:=by
 have H:=hid (Xu n w h1);go_enter Tryz.func50,Tryz.ntmps50;go_wp2_with fail;refine H.out.mono ?_;rintro e w1 ⟨rfl,rfl⟩;go_wp2_with fail;go_ret;exact⟨rfl,rfl⟩
theorem Jd (d n k cap:Nat) (a:Option Addr) (g:Array Value) (q:Bool) (w:World) (hn:n<=9223372036854775807) (hk:n=2 ^ k)
  (hT:TabAt 1 Lib.deBruijn64tab w) (h1:pnz n=1) (hg:∃ (x y:Option Addr) (z t:Int),g=#[.pointer x,.pointer y,.int .i64 z,.int .i64 t])
  (hS:∀ W,Below w.heap.size w W->Calls Tryz.prog 36 #[.pointer (some ⟨d,0,none⟩),.int .i64 (k:Int)] W fun e w'=>e=.returned (.tuple #[.agg g,.bool q])/\Below W.heap.size W w') :
  Calls Tryz.prog 29 #[.pointer (some ⟨d,0,none⟩),.slice a n cap] w fun e w'=>e=.returned (.tuple #[.agg g,.bool q])/\Below w.heap.size w w':=by
 obtain⟨x,y,z,t,rfl⟩:=hg;have h0:0<2 ^ k:=Nat.pow_pos (by decide)
 have HZ:Hid (∀ W,Below w.heap.size w W->Calls Tryz.prog 69 #[.int .u64 (n:Int)] W fun e w'=>e=.returned (.int .i64 (k:Int))/\w'=W):=fun W hW=>by refine (aF9 n (by omega) (by omega) W (zU hT hW)).mono ?_;rintro e w' ⟨S,m,rfl,_,h,hw⟩;rw[hk] at h;rw[Qj h];exact⟨rfl,hw⟩
 have HO:Hid (∀ W,Calls Tryz.prog 50 #[.int .u64 (n:Int)] W fun e w'=>e=.returned (.int .i64 1)/\w'=W):=fun W=>by have h:=Uk n W (by omega);rw[h1] at h;exact h
 have HS:=hid hS;obtain⟨R,hR⟩:=exE (w.heap.size);obtain⟨W0,hW0⟩:=exE (w.alloc (.cells #[.pointer none,.pointer none,.int .i64 0,.int .i64 0] 97));have hB0:=blA hW0;have hQ0:W0.rowIs R 97 4 (Kk (.pointer none) (.pointer none) (.int .i64 0) (.int .i64 0)):=by rw[hW0,hR];exact Fl w _ _ _ _ _
 have HRR:Hid (∀ W,Below W0.heap.size W0 W->W.rowIs R 97 4 (Kk (.pointer none) (.pointer none) (.int .i64 0) (.int .i64 0))):=fun W hW=>hQ0.of_block (hW.block R hQ0.lt);have HRW:Hid (w.heap.size<=R):=by unfold Hid;omega
 have HB0:=hid hB0;clear hk hT h1 h0 hS hQ0 hB0;go_enter Tryz.func29,Tryz.ntmps29;go_wp2_with fail;rw[<- hW0,<- hR];clear hW0 hR;refine (HO.out _).mono ?_;rintro e w1 ⟨rfl,hw1⟩;have hw1':=hw1.symm;subst hw1';clear hw1;go_wp2_with fail;refine (HZ.out _ HB0.out).mono ?_;rintro e w2 ⟨rfl,hw2⟩;have hw2':=hw2.symm;subst hw2';clear hw2;go_wp2_with fail;refine (HS.out _ HB0.out).mono ?_;rintro e w3 ⟨rfl,hw3⟩;have hr:=HRR.out w3 hw3;have r0:w3.cell? ⟨R,0,none⟩=some (.pointer none):=hr.cell (i:=0) (by omega);have r1:w3.cell? ⟨R,1,none⟩=some (.pointer none):=hr.cell (i:=1) (by omega);have r2:w3.cell? ⟨R,2,none⟩=some (.int .i64 0):=hr.cell (i:=2) (by omega);have r3:w3.cell? ⟨R,3,none⟩=some (.int .i64 0):=hr.cell (i:=3) (by omega);have u0:w3.frozen? ⟨R,0,none⟩=false:=hr.frozen 0;have u1:w3.frozen? ⟨R,1,none⟩=false:=hr.frozen 1;have u2:w3.frozen? ⟨R,2,none⟩=false:=hr.frozen 2;have u3:w3.frozen? ⟨R,3,none⟩=false:=hr.frozen 3;have HR3:=hid hr;have HB3:=hid (HB0.out.trans (hw3.mono HB0.out.size));clear hr hw3;go_wp2_with fail;refine bodyPost_ret (Aq rfl _ _ R 97 #[.pointer x,.pointer y,.int .i64 z,.int .i64 t] (0,0) _ rfl (Kl (Km HR3.out _ _ _ _)) Tryz.underlying97 rfl (by kernel_rfl)) rfl ?_;exact⟨rfl,(((HB3.out.setCell (p:=⟨R,0,none⟩) HRW.out _).setCell (p:=⟨R,1,none⟩) HRW.out _).setCell (p:=⟨R,2,none⟩) HRW.out _).setCell (p:=⟨R,3,none⟩) HRW.out _⟩
theorem Au (d b v N cap:Nat) (r s:Int) (a:Option Addr) (w:World) (hd:DomAt w d b (N:Int) r s) (hv:v<=12) (hN:N<=65536) (hT:TabAt 1 Lib.deBruijn64tab w) :
  Calls Tryz.prog 29 #[.pointer (some ⟨d,0,none⟩),.slice a (2 ^ v) cap] w fun e w'=>e=.returned (.tuple #[shV b d v,.bool (decide (2 ^ (v-v / 2)<=N / 2))])/\Below w.heap.size w w':=by
 have hp:2 ^ v<=2 ^ 12:=Nat.pow_le_pow_right (by decide) hv;exact Jd d (2 ^ v) v cap a _ _ w (by omega) rfl hT (Yp ⟨v,by omega⟩) ⟨_,_,_,_,rfl⟩ fun W hW=>Hg d b v N r s W (hd.below hW hd.lt) hv hN
theorem Ul (d n cap c:Nat) (a:Option Addr) (w:World) (hn:n<=9223372036854775807) (h1:pnz n=c) (hc:c≠1) :
  Calls Tryz.prog 29 #[.pointer (some ⟨d,0,none⟩),.slice a n cap] w fun e w'=>e=.returned (.tuple #[.agg #[.pointer none,.pointer none,.int .i64 0,.int .i64 0],.bool false])/\Below w.heap.size w w':=by
 have HO:Hid (∀ W,Calls Tryz.prog 50 #[.int .u64 (n:Int)] W fun e w'=>e=.returned (.int .i64 (c:Int))/\w'=W):=fun W=>by have h:=Uk n W (by omega);rw[h1] at h;exact h
 have hq:((c:Int) != 1)=true:=by simp;omega
 obtain⟨R,hR⟩:=exE (w.heap.size);obtain⟨W0,hW0⟩:=exE (w.alloc (.cells #[.pointer none,.pointer none,.int .i64 0,.int .i64 0] 97));have hB0:=blA hW0;have hQ0:W0.rowIs R 97 4 (Kk (.pointer none) (.pointer none) (.int .i64 0) (.int .i64 0)):=by rw[hW0,hR];exact Fl w _ _ _ _ _
 have HB0:=hid hB0;have HQ0:=hid hQ0;have HRW:Hid (w.heap.size<=R):=by unfold Hid;omega
 have r0:W0.cell? ⟨R,0,none⟩=some (.pointer none):=hQ0.cell (i:=0) (by omega);have r1:W0.cell? ⟨R,1,none⟩=some (.pointer none):=hQ0.cell (i:=1) (by omega);have r2:W0.cell? ⟨R,2,none⟩=some (.int .i64 0):=hQ0.cell (i:=2) (by omega);have r3:W0.cell? ⟨R,3,none⟩=some (.int .i64 0):=hQ0.cell (i:=3) (by omega);have u0:W0.frozen? ⟨R,0,none⟩=false:=hQ0.frozen 0;have u1:W0.frozen? ⟨R,1,none⟩=false:=hQ0.frozen 1;have u2:W0.frozen? ⟨R,2,none⟩=false:=hQ0.frozen 2;have u3:W0.frozen? ⟨R,3,none⟩=false:=hQ0.frozen 3;clear h1 hQ0 hB0;go_enter Tryz.func29,Tryz.ntmps29;go_wp2_with fail;rw[<- hW0,<- hR];clear hW0 hR;refine (HO.out _).mono ?_;rintro e w1 ⟨rfl,hw1⟩;have hw1':=hw1.symm;subst hw1';clear hw1;go_wp2_with fail;refine bodyPost_ret (Aq rfl _ _ R 97 #[.pointer none,.pointer none,.int .i64 0,.int .i64 0] (0,0) _ rfl (Kl (Km HQ0.out _ _ _ _)) Tryz.underlying97 rfl (by kernel_rfl)) rfl ?_;exact⟨rfl,(((HB0.out.setCell (p:=⟨R,0,none⟩) HRW.out _).setCell (p:=⟨R,1,none⟩) HRW.out _).setCell (p:=⟨R,2,none⟩) HRW.out _).setCell (p:=⟨R,3,none⟩) HRW.out _⟩
theorem Mt (d n cap:Nat) (a:Option Addr) (w:World) (hn:n<=9223372036854775807) (h:∀ v,v<=12->n≠2 ^ v) (hT:TabAt 1 Lib.deBruijn64tab w) :
  Calls Tryz.prog 29 #[.pointer (some ⟨d,0,none⟩),.slice a n cap] w fun e w'=>e=.returned (.tuple #[.agg #[.pointer none,.pointer none,.int .i64 0,.int .i64 0],.bool false])/\Below w.heap.size w w':=by
 by_cases h1:pnz n=1
 ·obtain⟨k,hk⟩:=aEB (by omega) h1;have h12:12<k:=Nat.lt_of_not_le fun hle=>h k hle hk;exact Jd d n k cap a _ _ w hn hk hT h1 ⟨_,_,_,_,rfl⟩ fun W _=>Uj d k W (Or.inr (by omega))
 ·exact Ul d n cap _ a w hn rfl h1
attribute [local go_sem] Oper.semAt_some
def chv (ap o st j:Nat):Value:=.slice (some ⟨ap,o+st*j,none⟩) st st
theorem aAZ (F:Fence) (n:Nat) (hf:F.fn 153) (hro:F.round=none) (hn:1<=n) (l Bs ap o L cp st m:Nat) (hL:L=st*m) (hst:1<=st) (hLc:L<=cp) (hlen:L<=140737488351232) (J Jx:List (Fin m)->World->Prop)
  (hAb:∀ s A B,J s A->A.grownBy B none->J s B)
  (hY:∀ pre x W,J pre W->pre.length<m->YieldAt F (n-1) Tryz.prog l #[.slice (some ⟨ap,o+st*x.val,none⟩) st st] W fun e W' =>
   (e=.returned (.bool true)/\J (pre++[x]) W'/\KeepsC Bs W W')∨(e=.returned (.bool false)/\Jx (pre++[x]) W'))
  (W:World) (hBs:W.cell? ⟨Bs,0,none⟩=some (.slice (some ⟨ap,o,none⟩) L cp)) (hBn:W.cell? ⟨Bs+1,0,none⟩=some (.int .i64 (st:Int))) (h0:J [] W) :
  CallsIn F n Tryz.prog 153 #[.func (.yield l) #[] #[],.pointer (some ⟨Bs,0,none⟩),.pointer (some ⟨Bs+1,0,none⟩)] W fun e W'=>(∃ v,e=.returned v) /\
   ((∃ ys,Bt ys m/\J ys W')∨(∃ pre,True/\Jx pre W')):=by
 have hmx:Tryz.prog.follows .mixedOrders=true:=by kernel_rfl
 have HLM:=hid hL;clear hL;refine callsIn_of_wp Tryz.func153 rfl hf ?_ hro;simp only[Tryz.ntmps153,List.size_toArray,List.length_cons,List.length_nil,Nat.reduceAdd,Nat.reduceSub,Array.replicate_succ,Array.replicate_zero,List.push_toArray,List.append_toArray,List.nil_append,List.cons_append]
 gi_wp2
 gi_loopw [4] (fun i wr=>∃ (k:Nat) (pre:List (Fin m)) (I:Nat),k<=m/\i=.int .i64 (I:Int)/\Hid (I=st*k)/\Hid (Bt pre k)/\J pre wr/\Hid (KeepsC Bs W wr))
  (fun i _=>L-(intOf i).toNat)
 case atStart=>exact⟨0,[],0,by omega,rfl,rfl,Oh m,h0,KeepsC.refl _ _⟩
 case round =>
  obtain⟨k,pre,I,hk,rfl,hI,hcame,hJs,hkp⟩:=hrel;have hBs2:=hkp.out.1.trans hBs;have hBn2:=hkp.out.2.trans hBn;by_cases hlt:k<m
  ·have HI2:Hid (I+st=st*(k+1)):=by have:=hI.out;unfold Hid;rw[Nat.mul_succ];omega
   have hIL:I+st<=L:=by rw[HI2.out,HLM.out];exact Nat.mul_le_mul_left _ (by omega)
   have hlt2:(I:Int)<(L:Int):=by omega
   have hle2:(I:Int)<=(L:Int):=by omega
   have hle3:(I:Int)<=(cp:Int):=by omega
   obtain⟨hJd⟩:Nonempty (Hid (J pre wr.drew)):=⟨hAb pre wr wr.drew hJs ⟨rfl,rfl,rfl,Nat.le_refl _,fun _ _ _=>rfl⟩⟩
   obtain⟨fn,tmps,assign,body,hy,hR⟩:=hY pre ⟨k,hlt⟩ wr.drew hJd.out (by rw[Ax hcame.out];omega);have HCM:=hid (Ll hcame.out ⟨k,hlt⟩ rfl);have hmin:min (st:Int) ((L-I:Nat):Int)=(st:Int):=by omega
   have hto:((I:Int)+(st:Int)).toNat-I=st:=by omega
   have hs1:(I:Int)+(st:Int)<=(L:Int):=by omega
   have hs2:(I:Int)+(st:Int)<=(cp:Int):=by omega
   have hs3:(I:Int)<=(I:Int)+(st:Int):=by omega
   have hw1:IntKind.i64.wrap ((I:Int)+(st:Int))=(I:Int)+(st:Int):=by rw[IntKind.wrap_i64];omega
   dsimp only at hy;rw[<- hI.out] at hy
   gi_wp2
   gi_region
   all_goals
    gi_wp2
   all_goals
    refine hR.mono ?_;rintro e W3 (⟨rfl,hJ3,hk3⟩ | ⟨rfl,hJx3⟩)
    ·have HK3:Hid (KeepsC Bs W W3):=hkp.out.trans ((show KeepsC Bs wr W3 from hk3));have hBn3:=HK3.out.2.trans hBn;clear hk3 hkp hBs2 hBn2
     gi_wp2
     go_roundw
     case rel=>exact⟨k+1,_,I+st,by omega,by go_num,HI2,HCM,hJ3,HK3⟩
     case measure=>simp[intOf];omega
    ·gi_wp2
     refine bodyPost_ret (results_none rfl _ _ _) rfl ?_;exact⟨⟨_,rfl⟩,.inr ⟨_,trivial,hJx3⟩⟩
  ·obtain rfl:k=m:=by omega
   have hge:¬ (I:Int)<(L:Int):=by have h1:=hI.out;have h2:=HLM.out;omega
   gi_wp2
   go_end0;exact⟨⟨_,rfl⟩,.inl ⟨_,hcame.out,hJs⟩⟩
theorem Qw (F:Fence) (n:Nat) (hf:F.fn 153) (hro:F.round=none) (hn:1<=n) (Bs ap o L cp st m:Nat) (hL:L=st*m) (hst:1<=st) (hLc:L<=cp) (hlen:L<=140737488351232) (w:World)
  (hBs:w.cell? ⟨Bs,0,none⟩=some (.slice (some ⟨ap,o,none⟩) L cp)) (hBn:w.cell? ⟨Bs+1,0,none⟩=some (.int .i64 (st:Int))) (hbs:Bs+1<w.heap.size) :
  SeqStopsK F n Tryz.prog 153 #[.pointer (some ⟨Bs,0,none⟩),.pointer (some ⟨Bs+1,0,none⟩)] (fun x:Fin m=>#[chv ap o st x.val]) (KeepsC Bs) (fun ys=>Bt ys m)
   (fun _=>True) m w:=fun l J Jx W hW hJ _ hY h0 =>
 aAZ F n hf hro hn l Bs ap o L cp st m hL hst hLc hlen J Jx (fun s A B h1 h2=>hJ s A B none h1 h2 (fun _ e=>by cases e)) hY W ((hW.cell (p:=⟨Bs,0,none⟩) (by show Bs<_;omega)).trans hBs) ((hW.cell (p:=⟨Bs+1,0,none⟩) hbs).trans hBn) h0
theorem Jo (Bs ap o L cp st m:Nat) (w:World) (hL:L=st*m) (hst:1<=st) (hLc:L<=cp) (hlen:L<=1000000) (hm:m<=1000000) (hc:w.cell? ⟨Bs,0,none⟩=some (.slice (some ⟨ap,o,none⟩) L cp)) (hc2:w.cell? ⟨Bs+1,0,none⟩=some (.int .i64 (st:Int))) :
  Calls Tryz.prog 161 #[.slice none 0 0,.func (.func 153) #[] #[.pointer (some ⟨Bs,0,none⟩),.pointer (some ⟨Bs+1,0,none⟩)]] w fun e w'=>∃ v,e=.returned v/\w'.ownsRow w.heap.size 25 1 v m ((List.range m).map (chv ap o st))/\Below w.heap.size w w':=by
 have hbs:Bs+1<w.heap.size:=qK hc2;obtain⟨i0,hi,hz0,hz1,hz2⟩:=info_parts Tryz.infoSl;refine (callsIn_wide (n:=8)).1 ?_;refine callsIn_of_wp_marks Tryz.func161 rfl trivial ?_ rfl;simp only[Tryz.ntmps161,List.size_toArray,List.length_cons,List.length_nil,Nat.reduceAdd,Nat.reduceSub,Array.replicate_succ,Array.replicate_zero,List.push_toArray,List.append_toArray,List.nil_append,List.cons_append]
 gi_wp2
 have bO:=Boxed.new w 36 (.slice none 0 0);have hB0:Below w.heap.size w (w.alloc (.cells #[.slice none 0 0] 36)):=(Below.refl _ w).alloc (Nat.le_refl _) _;have hc0:=(hB0.cell (p:=⟨Bs,0,none⟩) (by show Bs<_;omega)).trans hc;have hc1:=(hB0.cell (p:=⟨Bs+1,0,none⟩) hbs).trans hc2
 refine wpIn_rangeFunc_ownG rfl (by omega) (gf:=153) (lb:=#[.pointer (some ⟨Bs,0,none⟩),.pointer (some ⟨Bs+1,0,none⟩)]) rfl trivial (xZ Tryz.func153 (by kernel_rfl) (by kernel_rfl))
  (Qw Fence.wide 7 trivial rfl (by omega) Bs ap o L cp st m hL hst hLc (by omega) (w.alloc (.cells #[.slice none 0 0] 36)) hc0 hc1 (by simp;omega))
  (fun h k=>h.trans k)
  (fun W l q q' hl h h1 h2=>⟨World.cell?_of_block (World.putObj_heap_other (by simp at hl;show Bs≠l;omega)),World.cell?_of_block (World.putObj_heap_other (by simp at hl;show Bs+1≠l;omega))⟩)
  (Below.refl _ _) (fun _=>rfl)
  (fun (pre:List (Fin m)) W=>(∃ v,Boxed W w.heap.size 36 v/\W.ownsRow w.heap.size 25 1 v pre.length (pre.map fun x=>chv ap o st x.val)/\(v=.slice none 0 0↔pre=[]))/\Below w.heap.size w W)
  (fun _ _ _=>False)
  (OwnFrom.and (Own.from (holdsRow_own w.heap.size w.heap.size 36 25 1 (fun pre:List (Fin m)=>pre.length) (fun pre=>pre.map fun x=>chv ap o st x.val) (fun pre v=>v=.slice none 0 0↔pre=[])) _) (ownFrom_below (Nat.le_refl _) (by simp)))
  (fun _ _ _ _ _ hs _ _=>hs)
  ⟨⟨_,bO,World.ownsRow_nil _ _ _ _,by simp⟩,hB0⟩
  (fun x=>{ tmps:=#[.slice none 0 0,.func (.func 153) #[] #[.pointer (some ⟨Bs,0,none⟩),.pointer (some ⟨Bs+1,0,none⟩)],.pointer (some ⟨w.heap.size,0,none⟩),undef,.slice none 0 0,chv ap o st x.val,.func (.func 153) #[] #[.pointer (some ⟨Bs,0,none⟩),.pointer (some ⟨Bs+1,0,none⟩)],chv ap o st x.val,undef,undef,undef,undef,undef],defers:=[] }) ?assign ?body ?done ?stop
 case assign =>
  intro l x W K hK
  gi_wp2
  exact hK
 case body =>
  rintro l pre x W ⟨⟨v,hv,hrow,hnil⟩,hB⟩ hlt;have hcv:=hv.cell;unfold chv at hrow ⊢
  gi_wp2_with (gi_at_builtin;refine wpListIn_append_own _ rfl _ _ 36 rfl w.heap.size 25 i0 (.slice none 0 0) 1 24 Tryz.underlying36 hi hz0 hz1 hz2 rfl (by decide) _ _ _ rfl (hrow.alloc _) ⟨W.heap.size,0,none⟩ 1 1 [.slice (some ⟨ap,o+st*x.val,none⟩) st st] rfl rfl (cell_one_new _ _ _) (by simp[Value.oneCell']) (by unfold maxLen;omega) (by omega) (by have:=hB.size;simp;omega) ?_;intro v' w1 hown' hgrow _;obtain⟨g',cap',rfl⟩:=ownsRow_succ hown';obtain⟨hv1,hv2,hr2,hk2,hb2⟩:=hv.appended (by decide) hrow hB.size (Nat.le_refl _) hown' hgrow;have hc1:=hv1.cell;have hf1:=hv1.frozen)
  exact⟨hk2.from _,⟨hb2.cell (p:=⟨Bs,0,none⟩) (by show Bs<w.heap.size;omega),hb2.cell (p:=⟨Bs+1,0,none⟩) hbs⟩,⟨_,hv2,by simpa using hr2,by simp⟩,hB.trans hb2⟩
 case done =>
  rintro D ys W hD hys ⟨⟨v,hv,hrow,hnil⟩,hB⟩ hK;have hcv:=hv.cell;have hym:ys.length=m:=Ax hys
  have hyr:(ys.map fun x=>chv ap o st x.val)=(List.range m).map (chv ap o st):=by have h:ys.map (fun i=>i.val)=List.range m:=hys;rw[<- h,List.map_map];rfl
  rw[hym,hyr] at hrow
  gi_wp2
  refine⟨by simp,.inl ⟨_,_,rfl,run_takeDeferred hK,?_⟩⟩;exact⟨_,results_tmp rfl _ _ _,v,rfl,ownsRow_putObj hrow _ hK rfl,hB.trans (belowK_b (w:=w) (Nat.le_refl _) W D _ _ (by simp at hD;omega) hK rfl rfl)⟩
 case stop =>
  rintro D c pre W _ _ h _;exact h.elim
end Go.Proofs.YtkdndfbfmchcpaaGreatDoor
