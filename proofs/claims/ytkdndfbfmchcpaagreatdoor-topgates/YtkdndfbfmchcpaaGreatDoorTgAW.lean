
import Derived.Test.YtkdndfbfmchcpaaGreatDoorTgAV
set_option maxRecDepth 1000000
set_option maxHeartbeats 8000000
namespace Go.Proofs.YtkdndfbfmchcpaaGreatDoor
variable {G N O b base cap cp d g j k m n p q st:Nat}{L rows:List (List Int)}{W W' w:World}{a ap:Option Addr}{l os t:List Int}{r s:Int}
open Go.RowKit
def rwl (st m:Nat) (t:List Int):List (List Int):=(List.range m).map fun j=>(t.drop (st*j)).take st
theorem Ap (st m:Nat) (t:List Int):(rwl st m t).length=m:=by simp[rwl]
theorem aDh (t:List Int) {j:Nat} (h:j<m):rat (rwl st m t) j=(t.drop (st*j)).take st:=by
 unfold rat rwl;rw[List.getD_eq_getElem?_getD];simp[h]
theorem Bh (ht:t.length=st*m) {j:Nat} (h:j<m):(rat (rwl st m t) j).length=st:=by
 rw[aDh t h,List.length_take,List.length_drop,ht];have h1:st*(j+1)<=st*m:=Nat.mul_le_mul_left _ (by omega);rw[Nat.mul_succ] at h1;omega
theorem Qx{i:Nat} (h:j<m) (hi:i<st):zat (rat (rwl st m t) j) i=zat t (st*j+i):=by
 rw[aDh t h];unfold zat;rw[List.getElem?_take_of_lt hi,List.getElem?_drop]
theorem Um (ht:t.length=st*m) (hf:Fits t) (hst:st<=4096):Ak (rwl st m t):=fun k hk=>by
 rw[Ap] at hk;refine⟨fun j hj=>?_,by rw[Bh ht hk];omega⟩;rw[Bh ht hk] at hj;rw[Qx hk hj];exact hf.all _
theorem Hh{ap o:Nat}{v:Value} (ht:t.length=st*m) (h:w.ownsRow base 25 1 v m ((List.range m).map (chv ap o st))) (hr:RowB w.heap.size w (some ⟨ap,o,none⟩) t):∃ a c,v=.slice a m c/\LstR w.heap.size w a c (rwl st m t):=by
 rcases h.2 with ⟨rfl,h0⟩ | ⟨g,cap,cur,rfl,hb,hg,hn,hm,hs,hx⟩
 ·subst h0;exact⟨none,0,rfl,fun k hk=>by rw[Ap] at hk;omega,by rw[Ap];omega,fun _=>rfl⟩
 ·refine⟨some ⟨g,0,none⟩,cap,rfl,fun k hk=>?_,by rw[Ap];exact hn,fun e=>by cases e⟩;rw[Ap] at hk;refine⟨g,0,some ⟨ap,o+st*k,none⟩,st,rfl,(Array.getElem?_eq_some_iff.1 hg).1,?_,⟨fun i hi=>?_,by rw[Bh ht hk];exact Nat.le_refl _,fun e=>by cases e⟩⟩
  ·rw[Nat.zero_add,h.cellAt k (by omega),Bh ht hk];simp[chv,hk]
  ·rw[Bh ht hk] at hi;have h1:st*(k+1)<=st*m:=Nat.mul_le_mul_left _ (by omega);rw[Nat.mul_succ] at h1;obtain⟨b,o',e1,e2,e3⟩:=hr (st*k+i) (by omega);cases e1;exact⟨ap,o+st*k,rfl,e2,by rw[Qx hk hi,Nat.add_assoc];exact e3⟩
theorem Il (Bs ap o L cp st m:Nat) (w:World) (hL:L=st*m) (hst:1<=st) (hLc:L<=cp) (hlen:L<=1000000) (hm:m<=1000000) (hc:w.cell? ⟨Bs,0,none⟩=some (.slice (some ⟨ap,o,none⟩) L cp)) (hc2:w.cell? ⟨Bs+1,0,none⟩=some (.int .i64 (st:Int))) :
  Calls Tryz.prog 129 #[.func (.func 153) #[] #[.pointer (some ⟨Bs,0,none⟩),.pointer (some ⟨Bs+1,0,none⟩)]] w fun e w'=>∃ v,e=.returned v/\w'.ownsRow w.heap.size 25 1 v m ((List.range m).map (chv ap o st))/\Below w.heap.size w w':=by
 have HA:=hid (Jo Bs ap o L cp st m w hL hst hLc hlen hm hc hc2);clear hc hc2 hL;go_enter Tryz.func129,Tryz.ntmps129;go_wp2_with fail;refine HA.out.mono ?_;rintro e w1 ⟨v,rfl,h⟩;have H:=hid h;clear h;go_wp2_with fail;go_ret;exact⟨v,rfl,H.out⟩
theorem Xv (a:Option Addr) (len cap st:Nat) (w:World) (hst:1<=st) :
  Calls Tryz.prog 113 #[.slice a len cap,.int .i64 (st:Int)] w fun e w'=>e=.returned (.func (.func 153) #[] #[.pointer (some ⟨w.heap.size,0,none⟩),.pointer (some ⟨w.heap.size+1,0,none⟩)])/\w'=(w.alloc (.cells #[.slice a len cap] 25)).alloc (.cells #[.int .i64 (st:Int)] 3):=by
 have h1:¬ (st:Int)<1:=by omega
 go_enter Tryz.func113,Tryz.ntmps113;go_wp2_with fail;go_ret;exact⟨rfl,rfl⟩
theorem aBa (w:World) (x y:Value) (t u:TypeId):((w.alloc (.cells #[x] t)).alloc (.cells #[y] u)).cell? ⟨w.heap.size,0,none⟩=some x/\((w.alloc (.cells #[x] t)).alloc (.cells #[y] u)).cell? ⟨w.heap.size+1,0,none⟩=some y:=by
 have hs:(w.alloc (.cells #[x] t)).heap.size=w.heap.size+1:=by simp
 have e2:=heap_alloc_new (w.alloc (.cells #[x] t)) (.cells #[y] u);rw[hs] at e2;have e1:=((Below.refl (w.alloc (.cells #[x] t)).heap.size (w.alloc (.cells #[x] t))).alloc (Nat.le_refl _) (.cells #[y] u)).block w.heap.size (by omega);rw[heap_alloc_new w _] at e1;exact⟨by unfold World.cell?;rw[e1];rfl,by unfold World.cell?;rw[e2];rfl⟩
theorem Oy (b d v ap o cp m:Nat) (t:List Int) (w:World) (hv:v<=12) (ht:t.length=2 ^ v) (hm:2 ^ v=2 ^ (v-v / 2)*m) (hl:Lst w.heap.size w (some ⟨ap,o,none⟩) cp t) :
  Calls Tryz.prog 71 #[shV b d v,.slice (some ⟨ap,o,none⟩) (2 ^ v) cp] w fun e w'=>∃ x,e=.returned x/\w'.ownsRow w.heap.size 25 1 x m ((List.range m).map (chv ap o (2 ^ (v-v / 2))))/\Below w.heap.size w w':=by
 have hle:2 ^ v<=4096:=by have:=Nat.pow_le_pow_right (show 0<2 by omega) hv;omega
 have hst1:1<=2 ^ (v-v / 2):=Nat.one_le_two_pow;have hmle:m<=2 ^ v:=by rw[hm];exact Nat.le_mul_of_pos_left _ hst1
 have hWD:=Ms (.pointer (some ⟨b,0,none⟩)) (.pointer (some ⟨d,0,none⟩)) ((v / 2:Nat):Int) (v-v / 2);have HWD:=hid (fun W=>hWD W (by omega));obtain⟨st,hst⟩:=exE (2 ^ (v-v / 2));obtain⟨L,hL⟩:=exE (2 ^ v);rw[<- hst] at HWD hst1 ⊢;rw[<- hL] at hle hmle ⊢;have HLC:Hid (L=st*m/\L<=cp):=⟨by rw[hL,hst];exact hm,by have:=hl.room;omega⟩
 have HTL:Hid (t.length=st*m):=by unfold Hid;rw[ht,hst];exact hm
 have HL:=hid hl;obtain⟨W0,hW0⟩:=exE (w.alloc (.cells #[.pointer (some ⟨b,0,none⟩),.pointer (some ⟨d,0,none⟩),.int .i64 ((v / 2:Nat):Int),.int .i64 ((v-v / 2:Nat):Int)] 97));have HB0:Hid (Below w.heap.size w W0):=by rw[hW0];exact (Below.refl _ _).alloc (Nat.le_refl _) _
 have HW0:=hid hW0;unfold shV;generalize ((v / 2:Nat):Int)=hi at *;generalize ((v-v / 2:Nat):Int)=lo at *;clear hW0 hl ht hm hst hL hv hWD;go_enter Tryz.func71,Tryz.ntmps71;go_wp2_with fail;rw[<- HW0.out];refine (HWD.out W0).mono ?_;rintro e w1 ⟨rfl,hb1⟩;have HB1:Hid (Below w.heap.size w w1):=HB0.out.trans (hb1.mono HB0.out.size);clear hb1;go_wp2_with fail;refine (Xv (some ⟨ap,o,none⟩) L cp st w1 hst1).mono ?_;rintro e w2 ⟨rfl,hw2⟩;obtain⟨Bs,hBs⟩:=exE (w1.heap.size);have hb2:Below w1.heap.size w1 w2:=by rw[hw2];exact ((Below.refl _ _).alloc (Nat.le_refl _) _).alloc (by simp) _
 obtain⟨e1,e2⟩:=aBa w1 (.slice (some ⟨ap,o,none⟩) L cp) (.int .i64 (st:Int)) 25 3;rw[<- hw2,<- hBs] at e1 e2;have hc1:w2.cell? ⟨Bs,0,none⟩=some (.slice (some ⟨ap,o,none⟩) L cp):=e1;have hc2:w2.cell? ⟨Bs+1,0,none⟩=some (.int .i64 (st:Int)):=e2;have HCO:=hid (Il Bs ap o L cp st m w2 HLC.out.1 hst1 HLC.out.2 (by omega) (by omega) hc1 hc2);have HB2:Hid (Below w.heap.size w w2):=HB1.out.trans (hb2.mono HB1.out.size);rw[<- hBs];clear hw2 hBs hb2 hc1 hc2 HWD;go_wp2_with fail;refine HCO.out.mono ?_;rintro e w3 ⟨vv,rfl,ho3,hb3⟩;have HB3:Hid (Below w.heap.size w w3):=HB2.out.trans (hb3.mono HB2.out.size);have HRW:=hid (World.ownsRow.mono ho3 HB2.out.size);clear ho3 hb3;go_wp2_with fail;go_ret;exact⟨vv,rfl,HRW.out,HB3.out⟩
theorem aBb (b d v ap o cp m:Nat) (t:List Int) (w:World) (hv:v<=12) (ht:t.length=2 ^ v) (hm:2 ^ v=2 ^ (v-v / 2)*m) (hl:Lst w.heap.size w (some ⟨ap,o,none⟩) cp t) :
  Calls Tryz.prog 71 #[shV b d v,.slice (some ⟨ap,o,none⟩) (2 ^ v) cp] w fun e w'=>∃ a c,e=.returned (.slice a m c)/\LstR w'.heap.size w' a c (rwl (2 ^ (v-v / 2)) m t)/\Below w.heap.size w w':=by
 refine (Oy b d v ap o cp m t w hv ht hm hl).mono ?_;rintro e w' ⟨x,rfl,h1,h2⟩;obtain⟨a,c,rfl,e2⟩:=Hh (by rw[ht];exact hm) h1 ((hl.below h2).row.mono h2.size);exact⟨a,c,rfl,e2,h2⟩
theorem Qy (h:ArrI w g 3 n (zat l)) (hl:l.length=n):SlR w l (.slice (some ⟨g,0,none⟩) n n):=by
 subst hl;exact⟨_,_,rfl,⟨fun k hk=>⟨g,0,rfl,h.lt,by rw[Nat.zero_add];exact h.cell hk⟩,Nat.le_refl _,fun e=>by cases e⟩,fun _=>⟨g,0,rfl,_,3,(0,0),h.heap,by decide,by decide,by decide,by decide,by decide,by decide⟩⟩
def vll (p:Nat) (s r:Int) (N:Nat) (row:List Int):List Int:=ls (fun j=>evz p row (Dom.pt p s r j)) N
def cll (p:Nat) (s r:Int) (N:Nat) (rows:List (List Int)):List (List Int):=(List.range N).map (pgc (rows.map (vll p s r N)))
theorem Bf (p:Nat) (s r:Int) (N:Nat) (rows:List (List Int)):(cll p s r N rows).length=N:=by simp[cll]
theorem Xw (h:j<N):rat (cll p s r N rows) j=pgc (rows.map (vll p s r N)) j:=by
 unfold rat cll;rw[List.getD_eq_getElem?_getD];simp[h]
theorem Qz (p:Nat) (s r:Int) (N:Nat) (row:List Int):(vll p s r N row).length=N:=kQ _ _
theorem aDi (h3:3<=p) (hm:p<=2147483647) (s r:Int) (N:Nat) (row:List Int):Fits (vll p s r N row):=fun j hj=>by
 unfold vll at hj ⊢;rw[kQ] at hj;rw[kZ _ _ _ hj];have:=Fb p row (Dom.pt p s r j) h3;omega
theorem Ra{f:List Int->List Int} (h:k<rows.length):rat (rows.map f) k=f (rat rows k):=by
 unfold rat;rw[List.getD_eq_getElem?_getD,List.getD_eq_getElem?_getD,List.getElem?_map,List.getElem?_eq_getElem h];rfl
theorem Mu (h3:3<=p) (hm:p<=2147483647) (s r:Int) (N:Nat) (rows:List (List Int)) (hN:N<=65536) (hr:rows.length<=4096):Ak (cll p s r N rows):=fun k hk=>by
 rw[Bf] at hk;rw[Xw hk];refine⟨Ln (fun i hi=>?_) k,by rw[An,List.length_map];omega⟩;rw[List.length_map] at hi;rw[Ra hi];exact⟨aDi h3 hm _ _ _ _,by rw[Qz];omega⟩
theorem Nt{f:List Int->List Int} (h:k<rows.length):(rows.map f).take (k+1)=(rows.map f).take k++[f (rat rows k)]:=by
 rw[Nu (by rw[List.length_map];exact h),Ra h]
def ColI (g N m:Nat) (w:World) (L:List (List Int)) (j:Nat):Prop:=∃ B:Nat->Nat,w.rowIs g 25 N (fun i=>if i<j then .slice (some ⟨B i,0,none⟩) m m else .slice none 0 0)/\∀ i,i<j->g<B i/\ArrI w (B i) 3 m (zat (pgc L i))
theorem ColI.below{w':World} (h:ColI g N m w L j) (e:Below w.heap.size w w'):ColI g N m w' L j:=by
 obtain⟨B,h1,h2⟩:=h;refine⟨B,World.rowIs.of_block h1 (e.block g (World.rowIs.lt h1)),fun i hi=>?_⟩;obtain⟨e1,e2⟩:=h2 i hi;exact⟨e1,e2.below e e2.lt⟩
theorem ColI.put{x:Nat} (h:ColI g N m w L j) (hx:g<x) (hA:ArrI w x 3 m (zat (pgc L j))):ColI g N m (w.setCell ⟨g,j,none⟩ (.slice (some ⟨x,0,none⟩) m m)) L (j+1):=by
 obtain⟨B,h1,h2⟩:=h;refine⟨fun i=>if i=j then x else B i,World.rowIs.congr (World.rowIs.set h1 j _) (fun i _=>?_),fun i hi=>?_⟩
 ·by_cases e:i=j
  ·rw[if_pos e,if_pos (by omega)];simp[e]
  ·rw[if_neg e];by_cases hij:i<j
   ·rw[if_pos hij,if_pos (by omega)];simp[e]
   ·rw[if_neg hij,if_neg (by omega)]
 ·have hne:∀ y,g<y->y≠g:=fun y hy=>by omega
  by_cases e:i=j
  ·subst e;simp only[if_true];exact⟨hx,hA.block (Below.heap_setCell _ _ _ _ (by show x≠g;omega))⟩
  ·simp only[if_neg e];obtain⟨e1,e2⟩:=h2 i (by omega);exact⟨e1,e2.block (Below.heap_setCell _ _ _ _ (by show B i≠g;omega))⟩
theorem aBc{e:TypeId}{F:Nat->Value} (h:w.rowIs g e n F) (hb:base<=g) (hn:n<=maxLen):w.ownsRow base e 1 (.slice (some ⟨g,0,none⟩) n n) n ((List.range n).map F):=by
 obtain⟨c,h1,h2,h3⟩:=h;refine⟨by simp,.inr ⟨g,n,c,rfl,hb,h1,Nat.le_refl _,hn,by omega,?_⟩⟩;refine List.ext_getElem? fun j=>?_;rcases Nat.lt_or_ge j n with gj | gj
 ·rw[List.getElem?_take_of_lt (by omega),Array.getElem?_toList,h3 j gj];simp[gj]
 ·rw[List.getElem?_eq_none (by rw[List.length_take];omega),List.getElem?_eq_none (by simp;omega)]
theorem ColI.ownR (hm:m=rows.length) (hb:base<=g) (hN:N<=65536) (h:ColI g N m w (rows.map (vll p s r N)) N):OwnR base w (.slice (some ⟨g,0,none⟩) N N) (cll p s r N rows):=by
 obtain⟨B,h1,h2⟩:=h;refine⟨_,by rw[Bf];exact aBc h1 hb (by unfold maxLen;omega),fun j hj=>?_⟩;rw[Bf] at hj;refine⟨.slice (some ⟨B j,0,none⟩) m m,by simp[hj],?_⟩;rw[Xw hj];exact Qy (h2 j hj).2 (by rw[An,List.length_map,hm])
theorem Hi (p b d v ap o cp m N:Nat) (r s:Int) (t:List Int) (w:World) (hD:DO w p b d N r s) (hv:v<=12) (ht:t.length=2 ^ v) (hm:2 ^ v=2 ^ (v-v / 2)*m) (hf:Fits t) (hl:Lst w.heap.size w (some ⟨ap,o,none⟩) cp t) :
  Calls Tryz.prog 31 #[shV b d v,.slice (some ⟨ap,o,none⟩) (2 ^ v) cp] w fun e w'=>∃ x,e=.returned x/\OwnR w.heap.size w' x (cll p s r N (rwl (2 ^ (v-v / 2)) m t))/\Below w.heap.size w w':=by
 have hle:2 ^ v<=4096:=by have:=Nat.pow_le_pow_right (show 0<2 by omega) hv;omega
 have hst1:1<=2 ^ (v-v / 2):=Nat.one_le_two_pow;have hst2:2 ^ (v-v / 2)<=4096:=by have:=Nat.pow_le_pow_right (show 0<2 by omega) (show v-v / 2<=12 by omega);omega
 have hmle:m<=4096:=by have:m<=2 ^ v:=by rw[hm];exact Nat.le_mul_of_pos_left _ hst1
                       omega
 obtain⟨kk,hkk,hNN⟩:=hD.hk;have hN16:N<=65536:=by rw[hNN];have:=Az hkk;exact this
 have h3:=hD.h3;have hpm:=hD.hm;have HRWS:Hid (∀ W,Below w.heap.size w W->Calls Tryz.prog 71 #[shV b d v,.slice (some ⟨ap,o,none⟩) (2 ^ v) cp] W fun e w'=>∃ a c,e=.returned (.slice a m c)/\LstR w'.heap.size w' a c (rwl (2 ^ (v-v / 2)) m t)/\Below W.heap.size W w'):=fun W hW=>aBb b d v ap o cp m t W hv ht hm ((hl.below hW).mono hW.size);obtain⟨rows,hrows⟩:=exE (rwl (2 ^ (v-v / 2)) m t);have hrl:rows.length=m:=by rw[hrows,Ap]
 have HRL:Hid (∀ k,k<m->(rat rows k).length<=4096/\Fits (rat rows k)):=fun k hk=>by rw[hrows];exact⟨by rw[Bh (by rw[ht];exact hm) hk];exact hst2,(Um (by rw[ht];exact hm) hf hst2 k (by rw[Ap];exact hk)).1⟩
 have HDW:Hid (∀ W,Below w.heap.size w W->DO W p b d N r s):=fun W hW=>hD.below hW (qK hD.hp) hD.da.lt
 have HVAL:Hid (∀ (W:World) (k c:Nat) (a:Option Addr),k<m->Below w.heap.size w W->Lst W.heap.size W a c (rat rows k)->Calls Tryz.prog 72 #[.pointer (some ⟨d,0,none⟩),.slice a (rat rows k).length c] W fun e w'=>e=.returned (.slice (some ⟨W.heap.size,0,none⟩) N N)/\ArrI w' W.heap.size 3 N (zat (vll p s r N (rat rows k)))/\Below W.heap.size W w'):=fun W k c a hk hW hla=>by obtain⟨f1,f2⟩:=HRL.out k hk;have D:=HDW.out W hW;have h:=Vo p b d kk N c r s (fun x=>x<W.heap.size) a (rat rows k) W D.pr D.h3 D.hm D.hp D.da hkk hNN D.hr0 D.hr1 D.ord D.hs0 D.hs1 (by omega) f2 hla.row (fun _ h=>h);refine h.mono ?_;rintro e w' ⟨rfl,h1,h2,_⟩;exact⟨rfl,World.rowIs.congr h1 (fun j hj=>by unfold vll;rw[kZ _ _ _ hj]),h2⟩
 have HSZ:Hid (∀ W,Below w.heap.size w W->Calls Tryz.prog 73 #[.pointer (some ⟨d,0,none⟩)] W fun e w'=>e=.returned (.int .i64 (N:Int))/\w'=W):=fun W hW=>Fk d b N r s W (HDW.out W hW).da;obtain⟨LG,hLG⟩:=exE (rows.map (vll p s r N))
 have HLG:Hid (LG.length=m/\(∀ k,k<m->rat LG k=vll p s r N (rat rows k))/\(∀ k,k<m->LG.take (k+1)=LG.take k++[vll p s r N (rat rows k)])/\rows.length=m):=by rw[hLG];exact⟨by rw[List.length_map,hrl],fun k hk=>Ra (by omega),fun k hk=>Nt (by omega),hrl⟩
 have HCOL:Hid (∀ (W:World) (j c:Nat) (a:Option Addr),j<N->LstR W.heap.size W a c LG->Calls Tryz.prog 74 #[.slice a m c,.int .i64 (j:Int)] W fun e w'=>e=.returned (.slice (some ⟨W.heap.size,0,none⟩) m m)/\ArrI w' W.heap.size 3 m (zat (pgc LG j))/\Below W.heap.size W w'):=fun W j c a hj hla=>by have h:=Mk c j a LG W (by rw[HLG.out.1];omega) (fun k hk=>by rw[HLG.out.1] at hk;rw[HLG.out.2.1 k hk,Qz];exact hj) hla;rw[HLG.out.1] at h;exact h
 have HFIN:Hid (∀ (W:World) (g:Nat),w.heap.size<=g->ColI g N m W LG N->OwnR w.heap.size W (.slice (some ⟨g,0,none⟩) N N) (cll p s r N rows)):=fun W g hg h=>by rw[hLG] at h;exact h.ownR hrl.symm hg hN16
 obtain⟨L,hL⟩:=exE (2 ^ v);rw[<- hL] at HRWS ⊢;rw[<- hrows] at HRWS ⊢;unfold shV at HRWS ⊢;generalize ((v / 2:Nat):Int)=hi at *;generalize ((v-v / 2:Nat):Int)=lo at *;obtain⟨W0,hW0⟩:=exE (w.alloc (.cells #[.pointer (some ⟨b,0,none⟩),.pointer (some ⟨d,0,none⟩),.int .i64 hi,.int .i64 lo] 97));have hb0:=blA hW0;have hs0:=haA hW0;obtain⟨G,hG⟩:=exE (w.heap.size);have hG0:G<W0.heap.size:=by have:=(Array.getElem?_eq_some_iff.1 hs0).1;omega
 rw[<- hG] at hs0
 have HC:Hid (∀ W,Below W0.heap.size W0 W->W.cell? ⟨G,1,none⟩=some (.pointer (some ⟨d,0,none⟩))):=fun W hW=>by have e1:=(hW.block G hG0).trans hs0;simp[World.cell?,e1]
 have HBW:Hid (∀ W,Below W0.heap.size W0 W->Below w.heap.size w W):=fun W hW=>hb0.trans (hW.mono hb0.size);have HW0:=hid hW0;have HGE:=hid hG;have hmx:Tryz.prog.follows .mixedOrders=true:=by kernel_rfl
 clear hW0 hs0 hb0 hG hD hl ht hf hm hst1 hst2 hle hrows hrl hLG hkk hNN hL hv;go_enter Tryz.func31,Tryz.ntmps31;go_wp2_with fail;rw[<- HGE.out,<- HW0.out];refine (HRWS.out W0 (HBW.out W0 (Below.refl _ _))).mono ?_;rintro e w1 ⟨ar,cr,rfl,hr1,hb1⟩;have HR1:=hid hr1;have HB1:=hid hb1;clear hr1 hb1 HRWS;go_wp2_with fail;go_loopw [5,7,14] (fun lv _ iv wr=>∃ k:Nat,k<=m/\iv=.int .i64 (k:Int)/\Hid (OwnR w1.heap.size wr lv (LG.take k)/\Below w1.heap.size w1 wr)) (fun _ _ iv _=>m-(intOf iv).toNat)
 case atStart=>exact⟨0,Nat.zero_le _,rfl,OwnR.nil _ _,Below.refl _ _⟩
 case round =>
  obtain⟨k,hk,rfl,hI⟩:=hrel;have HBI:Hid (Below W0.heap.size W0 wr):=HB1.out.trans (hI.out.2.mono HB1.out.size);have HB1I:=hid hI.out.2;have HOI:=hid hI.out.1;have k1:=HC.out wr HBI.out;clear hI;by_cases hlt:k<m
  ·have hlt2:(k:Int)<(m:Int):=by omega
   have hk0:¬ (k:Int)<0:=by omega
   have hks:IntKind.i64.wrap ((k:Int)+1)=(k:Int)+1:=by rw[IntKind.wrap_i64];omega
   obtain⟨b1,o1,ak,ck,rfl,hb1,hc1,hl1⟩:=HR1.out.row k (by rw[HLG.out.2.2.2];exact hlt);have hc1':=(HB1I.out.cell (p:=⟨b1,o1+k,none⟩) hb1).trans hc1;have HVX:=hid (HVAL.out wr k ck ak hlt (HBW.out _ HBI.out) ((hl1.below HB1I.out).mono HB1I.out.size));have HTK:=hid (HLG.out.2.2.1 k hlt);obtain⟨nk,hnk⟩:=exE ((rat rows k).length);rw[<- hnk] at hc1' HVX;obtain⟨VV,hVV⟩:=exE (vll p s r N (rat rows k));rw[<- hVV] at HVX HTK;have HVN:Hid (VV.length=N):=by rw[hVV];exact Qz _ _ _ _ _
   clear hb1 hc1 hl1 hnk hVV;go_wp2_with fail;refine HVX.out.mono ?_;rintro e w5 ⟨rfl,hA5,hb5⟩;have HO5:=hid (HOI.out.keep hb5);have HSL:=hid (Qy hA5 HVN.out);have HB5:Hid (Below w1.heap.size w1 w5):=HB1I.out.trans (hb5.mono HB1I.out.size);have HTL:Hid ((LG.take k).length+1<=5864062014805):=by unfold Hid;rw[List.length_take];omega
   obtain⟨LK,hLK⟩:=exE (LG.take k);rw[<- hLK] at HTK HO5 HTL;clear hA5 hb5 HVX HOI hc1' k1 hLK;go_wp2_with (at_builtin;refine Vb w5 w1.heap.size rfl _ _ rfl _ _ LK VV HO5.out HSL.out rfl rfl HTL.out HB5.out.size ?_);intro v6 w6 ho6 hb6 _
   have HR6:Hid (OwnR w1.heap.size w6 v6 (LG.take (k+1))/\Below w1.heap.size w1 w6):=by unfold Hid;rw[HTK.out];exact⟨ho6,HB5.out.trans hb6⟩
   clear ho6 hb6 HO5 HSL HB5 HB1I HBI;go_wp2_with fail;go_roundw
   case rel=>exact⟨k+1,by omega,by go_num,HR6⟩
   case measure=>simp[intOf];omega
  ·obtain rfl:k=m:=by omega
   have hlt2:¬ (k:Int)<(k:Int):=by omega
   have HOE:=HOI;rw[List.take_of_length_le (by rw[HLG.out.1];exact Nat.le_refl _)] at HOE;obtain⟨al,cl,rfl,hll⟩:=OwnR.lst HOE.out;rw[HLG.out.1];have HLL:=hid hll;have HSZX:=hid (HSZ.out wr (HBW.out _ HBI.out));have hmk2:=fun w=>run_make_row' (P:=Tryz.prog) 36 25 (.slice none 0 0) 24 Tryz.underlying36 Tryz.infoSl rfl .i64 .i64 N (by omega) (by omega) w;clear hll HOI HSZ HVAL HR1;go_wp2_with fail;refine HSZX.out.mono ?_;rintro e w0 ⟨rfl,hw⟩;have hw1:=hw.symm;subst hw1;clear hw HSZX k1;obtain⟨W5,hW5⟩:=exE (wr.alloc (.cells (madeCells #[.slice none 0 0] N) 25));obtain⟨g,hg⟩:=exE (wr.heap.size)
   have HCI:Hid (ColI g N k W5 LG 0):=by rw[hW5,hg];exact⟨fun _=>0,World.rowIs.congr (World.rowIs_made _ _ _ _) (fun i _=>by rw[if_neg (Nat.not_lt_zero _)]),fun i hi=>absurd hi (Nat.not_lt_zero _)⟩
   have hba:=blA hW5;have hgl:g<W5.heap.size:=by rw[hW5,hg];simp
   have HB5:Hid (Below W0.heap.size W0 W5):=HBI.out.trans (hba.mono HBI.out.size);have HL5:Hid (LstR g W5 al cl LG):=by rw[hg];exact HLL.out.below hba
   have HGW:Hid (W0.heap.size<=g):=by have:=HBI.out.size;unfold Hid;omega
   have HW5:=hid hW5;have HGG:=hid hg;have hlen5:=HLG.out.1;clear hba hg hW5 HB1I HBI HOE HB1 HLL;go_wp2_with fail;rw[<- HGG.out,<- HW5.out];go_loopw [9,32] (fun _ iv wr=>∃ j:Nat,j<=N/\iv=.int .i64 (j:Int)/\Hid (ColI g N k wr LG j/\Below g W5 wr)) (fun _ iv _=>N-(intOf iv).toNat)
   case atStart=>exact⟨0,Nat.zero_le _,rfl,HCI.out,Below.refl _ _⟩
   case round =>
    obtain⟨j,hj,rfl,hI⟩:=hrel;by_cases hjt:j<N
    ·have hjt2:(j:Int)<(N:Int):=by omega
     have hj0:¬ (j:Int)<0:=by omega
     have hjs:IntKind.i64.wrap ((j:Int)+1)=(j:Int)+1:=by rw[IntKind.wrap_i64];omega
     have hgx:g<wr.heap.size:=by have:=hI.out.2.size;omega
     have HCX:=hid (HCOL.out wr j cl al hjt ((HL5.out.below hI.out.2).mono (by omega)));have HI:=hid hI.out;clear hI;go_wp2_with fail;refine HCX.out.mono ?_;rintro e w6 ⟨rfl,hA6,hb6⟩;have hC6:=HI.out.1.below hb6;have hC7:=hC6;obtain⟨B,hrow,_⟩:=hC7;have c1:=hrow.cell hjt;have y1:=hrow.frozen j;rw[if_neg (Nat.lt_irrefl _)] at c1;have HN6:=hid (hC6.put hgx hA6);have HB6:Hid (Below g W5 (w6.setCell ⟨g,j,none⟩ (.slice (some ⟨wr.heap.size,0,none⟩) k k))):=(HI.out.2.trans (hb6.mono (by omega))).setCell (p:=⟨g,j,none⟩) (Nat.le_refl g) _;clear hrow hA6 hb6 HCX HI hC6;go_wp2_with fail;go_roundw
     case rel=>exact⟨j+1,by omega,by go_num,HN6.out,HB6.out⟩
     case measure=>simp[intOf];omega
    ·obtain rfl:j=N:=by omega
     have hjt2:¬ (j:Int)<(j:Int):=by omega
     have HE:Hid (ColI g j k wr LG j/\Below w.heap.size w wr):=⟨hI.out.1,HBW.out _ (HB5.out.trans (hI.out.2.mono HGW.out))⟩
     clear hI;go_wp2_with fail;go_ret;exact⟨_,rfl,HFIN.out _ _ (Nat.le_trans (HBW.out W0 (Below.refl _ _)).size HGW.out) HE.out.1,HE.out.2⟩
theorem Rb (p b d v ap o cp m N:Nat) (r s:Int) (t:List Int) (w:World) (hD:DO w p b d N r s) (hv:v<=12) (ht:t.length=2 ^ v) (hm:2 ^ v=2 ^ (v-v / 2)*m) (hf:Fits t) (hl:Lst w.heap.size w (some ⟨ap,o,none⟩) cp t) :
  Calls Tryz.prog 31 #[shV b d v,.slice (some ⟨ap,o,none⟩) (2 ^ v) cp] w fun e w'=>∃ a c,e=.returned (.slice a N c)/\LstR w'.heap.size w' a c (cll p s r N (rwl (2 ^ (v-v / 2)) m t))/\Below w.heap.size w w':=by
 refine (Hi p b d v ap o cp m N r s t w hD hv ht hm hf hl).mono ?_;rintro e w' ⟨x,rfl,h1,h2⟩;obtain⟨a,c,rfl,e2⟩:=OwnR.lst h1;exact⟨a,c,by rw[Bf],e2,h2⟩
theorem aAd{t:TypeId}{f:Nat->Int} (h:ArrI w g t n f) (hl:l.length=n) (hz:∀ j,j<n->zat l j=f j) (h1:t≠25) (h2:t≠51) (h3:t≠94) (h4:t≠346) (h5:t≠36) (h6:t≠346):SlR w l (.slice (some ⟨g,0,none⟩) n n) :=
 ⟨some ⟨g,0,none⟩,n,by rw[hl],⟨fun k hk=>⟨g,0,rfl,h.lt,by rw[Nat.zero_add,h.cell (by omega),hz k (by omega)]⟩,by omega,fun e=>by cases e⟩,fun _=>⟨g,0,rfl,_,t,(0,0),h.heap,h1,h2,h3,h4,h5,h6⟩⟩
structure OpB (q n d b s:Nat) (a:Option Addr) (cap:Nat) (rows:List (List Int)) (w:World) (G O:Nat) (os:List Int) (ap:Option Addr) (cp:Nat) (W:World):Prop where
 res:W.rowIs w.heap.size 51 3 (tri (.slice none 0 0) (.slice none 0 0) (.slice none 0 0))
 all:W.rowIs G 163 2 (duo (.int .i64 0) (.int .i64 (rows.length:Int)))
 below:Below w.heap.size w W
 places:SlR W os (.slice ap os.length cp)
 isO:∃ c f,W.heap[O]?=some (.cells c 51 f)
 hG:w.heap.size<G
 hO:G<O
theorem OpB.pair{s:Nat}{B:Nat} (h:OpB q n d b s a cap rows w G O os ap cp W) (hB:B=O∨(aDe W B/\O<B)) (hp:Pair O B W W') (hO:∃ c f,W'.heap[O]?=some (.cells c 51 f)):OpB q n d b s a cap rows w G O os ap cp W':=by
 have h1:=h.hG;have h2:=h.hO;have hB1:O<=B:=by rcases hB with rfl | h;exact Nat.le_refl _;omega
 refine⟨h.res.of_block (hp.block _ h.res.lt (by omega) (by omega)),h.all.of_block (hp.block _ h.all.lt (by omega) (by omega)),h.below.trans (hp.below h.below.size (by omega) (by omega)),h.places.pair h.isO (hB.imp id And.left) hp,hO,h1,h2⟩
theorem OpB.keep{s:Nat} (h:OpB q n d b s a cap rows w G O os ap cp W) (hp:Below W.heap.size W W'):OpB q n d b s a cap rows w G O os ap cp W':=by
 obtain⟨c,f,hc⟩:=h.isO;exact⟨h.res.of_block (hp.block _ h.res.lt),h.all.of_block (hp.block _ h.all.lt),h.below.trans (hp.mono h.below.size),h.places.keep hp,⟨c,f,(hp.block _ (Array.getElem?_eq_some_iff.1 hc).1).trans hc⟩,h.hG,h.hO⟩
theorem Un (q n d b s cap cp:Nat) (a ap:Option Addr) (rows:List (List Int)) (ps:List Int) (w:World) (ok:SpgOk q n d) (hs:SpgAt w s b q n d) (h1:1<=rows.length) (h2:rows.length<=65536) (hpl:ps.length<=17592186044400) (hfr:Ak rows) (hl:LstR w.heap.size w a cap rows) (hrow:RowB w.heap.size w ap ps) (hin:ps.any (Aj 0 rows.length)=false) :
  Calls Tryz.prog 70 #[.pointer (some ⟨s,0,none⟩),.slice a rows.length cap,.slice ap ps.length cp] w (aGf q n rows ps w):=by
 have hyes:(decide (1<=(rows.length:Int)) && decide ((rows.length:Int)<=65536))=true:=by rw[Bool.and_eq_true,decide_eq_true_eq,decide_eq_true_eq];omega
 have h3:3<=q:=by have:=ok.h23;omega
 have hm:=ok.hm;have hmx:Tryz.prog.follows .mixedOrders=true:=by kernel_rfl
 have HB0:Hid (Below w.heap.size w (w.alloc (.cells #[.slice none 0 0,.slice none 0 0,.slice none 0 0] 51))):=(Below.refl _ _).alloc (Nat.le_refl _) _;have HR0:=hid (Di w 51 (.slice none 0 0) (.slice none 0 0) (.slice none 0 0));have HRW:=hid hrow;have HSP:=hid hs;have HOK:=hid ok;have HFR:=hid hfr;have HLR:=hid hl
 have HIN:Hid (∀ x,x∈ps->0<=x/\x<(rows.length:Int)):=fun x hx=>by have:=List.any_eq_false.1 hin x hx;simp[Aj] at this;omega
 clear hrow hs ok hfr hl;go_enter Tryz.func70,Tryz.ntmps70;go_wp2_with fail;refine (Fh (rows.length:Int) _).mono ?_;rintro e w1 ⟨rfl,rfl⟩;rw[hyes];clear hyes;generalize w.alloc (.cells #[.slice none 0 0,.slice none 0 0,.slice none 0 0] 51)=W0 at *;have HB1:Hid (Below W0.heap.size W0 (W0.alloc (.cells #[.int .i64 0,.int .i64 (rows.length:Int)] 163))):=(Below.refl _ _).alloc (Nat.le_refl _) _;have HG1:=hid (Ai W0 163 (.int .i64 0) (.int .i64 (rows.length:Int)));have HR1:=hid (HR0.out.of_block (HB1.out.block _ HR0.out.lt));have hG0:w.heap.size<W0.heap.size:=HR0.out.lt;go_wp2_with fail;generalize W0.alloc (.cells #[.int .i64 0,.int .i64 (rows.length:Int)] 163)=W1 at *;have HBW:=hid (HB0.out.trans (HB1.out.mono HB0.out.size));have g0:=HG1.out.cell (i:=0) (by omega);have g1:=HG1.out.cell (i:=1) (by omega);have HCT:=hid (Hc 0 rows.length cp ap ps W1 (by omega) ((HRW.out.below HBW.out).mono HBW.out.size));rw[hin,Int.natCast_zero] at HCT;clear hin;go_wp2_with fail;refine HCT.out.mono ?_;rintro e w2 ⟨rfl,hb2⟩;have HR2:=hid (HR1.out.of_block (hb2.block _ HR1.out.lt));have HG2:=hid (HG1.out.of_block (hb2.block _ HG1.out.lt));have HB2:=hid (HBW.out.trans (hb2.mono HBW.out.size));have hG2:W0.heap.size<w2.heap.size:=HG2.out.lt;clear hb2 g0 g1 HR1 HBW HB1 HG1 HCT;go_wp2_with fail;refine (aCV ap ps.length cp w2).mono ?_;rintro e w3 ⟨rfl,rfl⟩;have HBv:Hid (Below w2.heap.size w2 (w2.alloc (.cells #[.slice ap ps.length cp] 25))):=(Below.refl _ _).alloc (Nat.le_refl _) _
 have HCv:Hid ((w2.alloc (.cells #[.slice ap ps.length cp] 25)).cell? ⟨w2.heap.size,0,none⟩=some (.slice ap ps.length cp)):=by unfold Hid;rw[World.cell?_alloc_at _ _ _ _ rfl];rfl
 have HB3:=hid (HB2.out.trans (HBv.out.mono HB2.out.size));have HR3:=hid (HR2.out.of_block (HBv.out.block _ HR2.out.lt));have HG3:=hid (HG2.out.of_block (HBv.out.block _ HG2.out.lt));have hG3:W0.heap.size<(w2.alloc (.cells #[.slice ap ps.length cp] 25)).heap.size:=HG3.out.lt;have HSO:=hid (Xr w2.heap.size cp ap ps (w2.alloc (.cells #[.slice ap ps.length cp] 25)) hpl HCv.out ((HRW.out.below HB3.out).mono HB3.out.size));clear HR2 HG2 HB2 HBv HCv hG2;generalize w2.alloc (.cells #[.slice ap ps.length cp] 25)=W3 at *;obtain⟨zs,hzs⟩:=exE ((ps.mergeSort fun x y=>decide (x<=y)));have hzl:zs.length=ps.length:=by rw[hzs];simp
 obtain⟨os,hos⟩:=exE (Lib.compact zs);have HOS:Hid (OnceIs ps os):=by unfold Hid;rw[hos,hzs];exact He ps
 rw[<- hzs,<- hzl] at HSO
 have HCP:Hid (∀ v W,W.ownsRow W3.heap.size 3 1 v zs.length (zs.map (Value.int .i64))->Below W3.heap.size W3 W->Calls Tryz.prog 91 #[v] W fun e w'=>∃ ao co,e=.returned (.slice ao os.length co)/\SlR w' os (.slice ao os.length co)/\Below W3.heap.size W3 w'):=fun v W ho hb=>by refine (Jc W3.heap.size v zs W (by omega) ho hb.size).mono ?_;rintro e w' ⟨v',rfl,h1,h2⟩;rw[<- hos] at h1;obtain⟨ao,co,rfl,_⟩:=kY h1;exact⟨ao,co,rfl,Jg h1,hb.trans h2⟩
 clear hzs hzl hos;go_wp2_with fail;refine HSO.out.mono ?_;rintro e w4 ⟨v4,rfl,ho4,hb4⟩;have HO4:=hid ho4;have HB4:=hid hb4;clear ho4 hb4 HSO;go_wp2_with fail;refine (HCP.out v4 w4 HO4.out HB4.out).mono ?_;rintro e w5 ⟨ao,co,rfl,hsl,hb5⟩;have HSL:=hid hsl;have HR5:=hid (HR3.out.of_block (hb5.block _ HR3.out.lt));have HG5:=hid (HG3.out.of_block (hb5.block _ HG3.out.lt));have HB5:=hid (HB3.out.trans (hb5.mono HB3.out.size));have hG5:W0.heap.size<w5.heap.size:=HG5.out.lt;clear hsl hb5 HO4 HB4 HCP HR3 HG3 HB3 hG3;have HBX:Hid (Below w5.heap.size w5 (w5.alloc (.cells #[.slice ao os.length co,.slice none 0 0,.slice none 0 0] 51))):=(Below.refl _ _).alloc (Nat.le_refl _) _;have HO6:=hid (Di w5 51 (.slice ao os.length co) (.slice none 0 0) (.slice none 0 0))
 have HOB:Hid (OpB q n d b s a cap rows w W0.heap.size w5.heap.size os ao co (w5.alloc (.cells #[.slice ao os.length co,.slice none 0 0,.slice none 0 0] 51))) :=
  ⟨HR5.out.of_block (HBX.out.block _ HR5.out.lt),HG5.out.of_block (HBX.out.block _ HG5.out.lt),HB5.out.trans (HBX.out.mono HB5.out.size),HSL.out.keep HBX.out,⟨_,_,Hq HO6.out⟩,hG0,hG5⟩
 clear HR5 HG5 HB5 HBX HSL hG5;go_wp2_with fail;generalize w5.alloc (.cells #[.slice ao os.length co,.slice none 0 0,.slice none 0 0] 51)=W6 at *;generalize w5.heap.size=O at *;generalize W0.heap.size=G at *;have c0:=HO6.out.cell (i:=0) (by omega);simp only[tri] at c0;go_wp2_with fail;clear c0
 have hol2:os.length<=rows.length:=by
  have:=Ld (ps:=(List.range rows.length).map (fun i:Nat=>(i:Int))) HOS.out.1 (fun x hx=>by
   obtain⟨e1,e2⟩:=HIN.out x ((HOS.out.2 x).1 hx)
   exact List.mem_map.2 ⟨x.toNat,List.mem_range.2 (by omega),by omega⟩)
  simpa using this
 have hol:os.length<=ps.length:=Ld HOS.out.1 (fun x hx=>(HOS.out.2 x).1 hx);go_loopw [41] (fun iv wr=>∃ (k:Nat) (ar:Option Addr) (cr:Nat),k<=os.length/\iv=.int .i64 k/\Hid (wr.rowIs O 51 3 (tri (.slice ao os.length co) (.slice ar k cr) (.slice none 0 0))/\Pair O O W6 wr/\OwnR W6.heap.size wr (.slice ar k cr) (shw q rows (os.take k)))) (fun iv _=>os.length-(intOf iv).toNat)
 case atStart=>exact⟨0,none,0,Nat.zero_le _,rfl,HO6.out,Pair.refl _ _ _,by rw[List.take_zero];exact OwnR.nil _ _⟩
 case round =>
  obtain⟨k,ar,cr,hk,rfl,hC⟩:=hrel;have HOW:=hid (HOB.out.pair (.inl rfl) hC.out.2.1 (Vd hC.out.1));by_cases hlt:k<os.length
  ·have hlt2:(k:Int)<(os.length:Int):=by omega
   have hks:IntKind.i64.wrap ((k:Int)+1)=(k:Int)+1:=by rw[IntKind.wrap_i64];omega
   obtain⟨_,_,e1,cL⟩:=HOW.out.places.lst;cases e1;obtain⟨b1,o1,rfl,_,hc1⟩:=cL.row k hlt;obtain⟨hx0,hx1⟩:=HIN.out (zat os k) ((HOS.out.2 _).1 (Gb hlt));obtain⟨y,hy⟩:=Int.eq_ofNat_of_zero_le hx0;have hyl:y<rows.length:=by omega
   have hyl2:(y:Int)<(rows.length:Int):=by omega
   obtain⟨b2,o2,ak,ck,rfl,hb2,hc2,hlk⟩:=HLR.out.row y hyl
   have HSN:Hid (shw q rows (os.take (k+1))=shw q rows (os.take k)++[elr q (rat rows y)]):=by unfold Hid;rw[aDx q rows hlt,hy,Int.toNat_natCast]
   rw[hy] at hc1;have HTL:Hid ((shw q rows (os.take k)).length=k):=by unfold Hid;rw[Dj,List.length_take];omega
   obtain⟨ly,hly⟩:=exE ((rat rows y).length);rw[<- hly] at hc2;have hOl:O<wr.heap.size:=hC.out.1.lt
   have HKe:Hid (∀ W,Below wr.heap.size wr W->W.cell? ⟨O,1,none⟩=some (.slice ar k cr)/\W.cell? ⟨b2,o2+y,none⟩=some (.slice ak ly ck)):=fun W h =>
    ⟨(h.cell (p:=⟨O,1,none⟩) hOl).trans (hC.out.1.cell (i:=1) (by omega)),((HOW.out.below.trans (h.mono HOW.out.below.size)).cell (p:=⟨b2,o2+y,none⟩) hb2).trans hc2⟩
   have HFd:Hid (∀ W,Below wr.heap.size wr W->Calls Tryz.prog 6 #[.pointer (some ⟨s,0,none⟩)] W fun e w'=>e=.returned (.pointer (some ⟨b,0,none⟩))/\w'=W):=fun W h=>zK q n d b s W (HSP.out.keep (HOW.out.below.trans (h.mono HOW.out.below.size)))
   have HEl:Hid (∀ W,Below wr.heap.size wr W->Calls Tryz.prog 124 #[.pointer (some ⟨b,0,none⟩),.slice ak ly ck] W fun e w'=>∃ ge,e=.returned (.slice (some ⟨ge,0,none⟩) ly ly)/\Below wr.heap.size wr w'/\∃ a4 c4 w4,(Builtin.append_ #[36,36] 36 #[.slice ar k cr,.slice (some ⟨w'.heap.size,0,none⟩) 1 1]).run Tryz.prog (w'.alloc (.cells #[.slice (some ⟨ge,0,none⟩) ly ly] 25))=.ok (.slice a4 (k+1) c4) w4/\w4.cell? ⟨O,1,none⟩=some (.slice ar k cr)/\w4.frozen? ⟨O,1,none⟩=false/\Hid ((w4.setCell ⟨O,1,none⟩ (.slice a4 (k+1) c4)).rowIs O 51 3 (tri (.slice (some ⟨b1,o1,none⟩) os.length co) (.slice a4 (k+1) c4) (.slice none 0 0))/\Pair O O W6 (w4.setCell ⟨O,1,none⟩ (.slice a4 (k+1) c4))/\OwnR W6.heap.size (w4.setCell ⟨O,1,none⟩ (.slice a4 (k+1) c4)) (.slice a4 (k+1) c4) (shw q rows (os.take (k+1))))):=fun W h=>by
    have hbw:=HOW.out.below.trans (h.mono HOW.out.below.size);have hf:=HFR.out y hyl;rw[hly];refine (Rm q b ck ak (rat rows y) W h3 hm (HSP.out.keep hbw).p (by have:=hf.2;omega) hf.1 ((hlk.row.below hbw).mono hbw.size)).mono ?_;rintro e w' ⟨rfl,hA,hb'⟩;have h':=h.trans (hb'.mono h.size);have hS:=aAd (l:=elr q (rat rows y)) hA (by unfold elr;rw[kQ]) (fun j hj=>by unfold elr;rw[kZ _ _ _ hj]) (by decide) (by decide) (by decide) (by decide) (by decide) (by decide);have hO':=hC.out.2.2.keep h';have hz6:=Nat.le_trans hC.out.2.1.size h'.size;obtain⟨v4,w4,hr,ho4,hb4,hn4,_,hz4⟩:=Ui w' W6.heap.size _ _ _ _ hO' hS (by rw[HTL.out];omega) hz6;rw[<- HSN.out] at ho4;obtain⟨a4,c4,e4,_⟩:=ho4.lst;have hl4:(shw q rows (os.take (k+1))).length=k+1:=by rw[Dj,List.length_take];omega
    rw[hl4] at e4;subst e4;have dO:=(hC.out.1.of_block (h'.block _ hOl)).of_block (hb4.block O (HO6.out.lt));refine⟨_,rfl,h',a4,c4,w4,hr,?_,dO.frozen 1,Nf dO _,?_,ho4.setO (Vd dO)⟩
    ·exact dO.cell (i:=1) (by omega)
    ·exact ((Hf (hC.out.2.1) (h'.mono hC.out.2.1.size) h'.size) |> fun p=>(Hf p hb4 hz4)).setCell (p:=⟨O,1,none⟩) (.inl rfl) _
   have hlyb:ly<=281474976710656:=by have:=(HFR.out y hyl).2;omega
   clear hC hc2 hlk hy hx0 hx1 hly cL;go_wp2_with fail;have hb30:Below wr.heap.size wr wr.drew:=(Below.refl _ _).drew;refine jQ (C:=fun W=>Below wr.heap.size wr W) (st:=[10,12]) hmx ?_;show jY _ _ _ _ _ _ 13 (Array.replicate 13 false) _ _;refine psU 0 (.pointer (some ⟨O,1,none⟩)) rfl (fun W _=>?_) (fun _=>hb30) ?_
   ·go_simp
   refine psT 1 (.slice ar k cr) rfl (fun W hC=>?_) hb30 ?_
   ·obtain⟨q0,q1⟩:=HKe.out W hC;go_simp
   refine psU 2 (.pointer (some ⟨s,0,none⟩)) rfl (fun W _=>?_) (fun _=>hb30) ?_
   ·go_simp
   refine psU 4 (.slice (some ⟨b2,o2,none⟩) rows.length cap) rfl (fun W _=>?_) (fun _=>hb30) ?_
   ·go_simp
   refine psU 5 (.int .i64 (y:Int)) rfl (fun W _=>?_) (fun _=>hb30) ?_
   ·go_simp
   refine psU 6 (.pointer (some ⟨b2,o2+y,none⟩)) rfl (fun W _=>?_) (fun _=>hb30) ?_
   ·go_simp
   refine psT 7 (.slice ak ly ck) rfl (fun W hC=>?_) hb30 ?_
   ·obtain⟨q0,q1⟩:=HKe.out W hC;go_simp
   refine Ad 3 fun K' hK'=>?_;go_simp;refine (HFd.out _ hb30).mono ?_;rintro e w' ⟨rfl,rfl⟩;refine hK' _ _ ⟨fun _=>hb30,?_⟩;clear hK' K';refine Ad 8 fun K' hK'=>?_;go_simp;refine (HEl.out _ hb30).mono ?_;rintro e w7 ⟨ge,rfl,hb7,a4,c4,w8,hrun,hco,hfo,HE⟩;refine hK' _ _ ⟨fun _=>hb7,?_⟩;clear hK' K';refine Ad 9 fun K' hK'=>?_;go_simp;refine hK' _ _ ⟨fun _=>hb7.alloc hb7.size _,?_⟩;clear hK' K';refine Ad 10 fun K' hK'=>?_;refine Be _ _ _ _ rfl rfl _ _ _ _ hrun rfl rfl ?_;refine hK' _ _ ⟨fun h=>absurd (h 10 (by simp)) (by decide),?_⟩;clear hK' K';refine Ad 11 fun K' hK'=>?_;go_simp;refine hK' _ _ ⟨fun h=>absurd (h 10 (by simp)) (by decide),?_⟩;clear hK' K';refine Ad 12 fun K' hK'=>?_;go_simp;refine hK' _ _ ⟨fun h=>absurd (h 10 (by simp)) (by decide),kJ (by kernel_rfl) ?_ _⟩;clear hK' K';go_wp2_with fail;go_roundw
   case rel=>exact⟨k+1,a4,c4,by omega,by go_num,HE⟩
   case measure=>simp[intOf];omega
  ·obtain rfl:k=os.length:=by omega
   have HCO:=hC.out;rw[List.take_length] at HCO;have HC1:=hid HCO;clear HCO hC;go_wp2_with fail;refine (Ji s wr).mono ?_;rintro e w7 ⟨rfl,hwl,hmp,hsz,hb7⟩;have HWL:=hid hwl;have HMP:=hid hmp;have HSZ:=hid hsz;have HOW7:=hid (HOW.out.keep hb7);have HO7:=hid (HC1.out.1.of_block (hb7.block _ HC1.out.1.lt));have HOR7:=hid (HC1.out.2.2.keep hb7);have hOB:O<wr.heap.size:=HC1.out.1.lt;clear hwl hmp hsz hb7 HOW HC1
   have HHI:Hid (Calls Tryz.prog 126 #[.agg #[.int .i64 0,.int .i64 (rows.length:Int)],.slice ao os.length co] w7 fun e w'=>∃ av c5,e=.returned (.slice av (hd2 os rows.length 0 rows.length).length c5)/\OwnG w7.heap.size w' (.slice av (hd2 os rows.length 0 rows.length).length c5) (hd2 os rows.length 0 rows.length)/\Below w7.heap.size w7 w'):=by
    have hsg:=Qs (N:=rows.length) (ps:=os) (fun x hx=>HIN.out x ((HOS.out.2 x).1 hx));obtain⟨_,_,e1,cL⟩:=HOW7.out.places.lst;cases e1;have:=Dd os HOS.out.1 rows.length 0 rows.length h1 (Nat.le_refl _) (by omega) co ao w7 (by rw[hsg];exact cL);rw[hsg,Nat.zero_add] at this;refine this.mono ?_;rintro e w' ⟨v,rfl,hov,hb⟩;rcases hov.2 with ⟨rfl,h0⟩ | ⟨g5,c5,_,rfl,_⟩
    ·exact⟨none,0,by rw[h0],by rw[h0];exact hov,hb⟩
    ·exact⟨_,_,rfl,hov,hb⟩
   have k0:=HO7.out.cell (i:=0) (by omega);simp only[tri] at k0;have g0:=HOW7.out.all.cell (i:=0) (by omega);have g1:=HOW7.out.all.cell (i:=1) (by omega);simp only[duo] at g0 g1;obtain⟨hl,hhl⟩:=exE ((hd2 os rows.length 0 rows.length).length);rw[<- hhl] at HHI;have hll:hl<=65536:=by have:=Er os rows.length 0 rows.length h1 (Nat.le_refl _);omega
   have HHL:=hid hhl;clear hhl;go_wp2_with fail;refine HHI.out.mono ?_;rintro e w8 ⟨av,c5,rfl,hov,hb8⟩;have HOV:=hid hov;have HWL8:=hid (HWL.out.block (hb8.block _ HWL.out.lt));have HMP8:=hid (HMP.out.below hb8 HMP.out.lt);have HOW8:=hid (HOW7.out.keep hb8);have HO8:=hid (HO7.out.of_block (hb8.block _ HO7.out.lt));have HOR8:=hid (HOR7.out.keep hb8);have hz8:wr.heap.size+2<=w8.heap.size:=by have:=hb8.size;rw[HSZ.out] at this;exact this
   have hz7:wr.heap.size+2<=w7.heap.size:=by rw[HSZ.out];exact Nat.le_refl _
   clear hov hb8 HWL HMP HOW7 HO7 HOR7 HSZ HHI k0 g0 g1;generalize wr.heap.size=B at *;go_wp2_with fail;go_loopw [65] (fun iv wt=>∃ (t:Nat) (an':Option Addr) (cn:Nat),t<=hl/\iv=.int .i64 t/\Hid (wt.rowIs O 51 3 (tri (.slice ao os.length co) (.slice ar os.length cr) (.slice an' t cn))/\Pair O B w8 wt/\(∃ M,MapIs wt B M/\Snd M (DR q n rows))/\OwnR w8.heap.size wt (.slice an' t cn) (((hd2 os rows.length 0 rows.length).take t).map (fun g=>DR q n rows g.1 g.2)))) (fun iv _=>hl-(intOf iv).toNat)
   case atStart=>exact⟨0,none,0,Nat.zero_le _,rfl,HO8.out,Pair.refl _ _ _,⟨_,HMP8.out,fun _ _ _ h=>by cases h⟩,by rw[List.take_zero];exact OwnR.nil _ _⟩
   case round =>
    obtain⟨t,an',cn,ht,rfl,hC⟩:=hrel
    have HNB:Hid (aDe w8 B):=fun c t' f e=>by obtain⟨es,cl,h0,_⟩:=HMP8.out;rw[h0] at e;cases e
    have HOW:=hid (HOW8.out.pair (.inr ⟨HNB.out,hOB⟩) hC.out.2.1 (Vd hC.out.1));by_cases htl:t<hl
    ·have hlt2:(t:Int)<(hl:Int):=by omega
     have hks:IntKind.i64.wrap ((t:Int)+1)=(t:Int)+1:=by rw[IntKind.wrap_i64];omega
     obtain⟨gv,e1,e2,e3,e4,e5⟩:=Mq HOV.out (k:=t) (by rw[<- HHL.out];exact htl);simp only[Value.slice.injEq] at e1;obtain⟨rfl,-,-⟩:=e1
     have hgv:gv≠O/\gv≠B:=by
      constructor
      ·omega
      ·rintro rfl;omega
     have c1:=(hC.out.2.1.cell (p:=⟨gv,t*2,none⟩) e3 hgv.1 hgv.2).trans e4;have c2:=(hC.out.2.1.cell (p:=⟨gv,t*2+1,none⟩) e3 hgv.1 hgv.2).trans e5;have hhd:=Vi (ps:=os) h1 (show t<(hd2 os rows.length 0 rows.length).length by rw[<- HHL.out];exact htl)
     have HSN:Hid (((hd2 os rows.length 0 rows.length).take (t+1)).map (fun g=>DR q n rows g.1 g.2)=((hd2 os rows.length 0 rows.length).take t).map (fun g=>DR q n rows g.1 g.2)++[DR q n rows ((hd2 os rows.length 0 rows.length).getD t (0,0)).1 ((hd2 os rows.length 0 rows.length).getD t (0,0)).2]):=by
      unfold Hid;have hx:t<(hd2 os rows.length 0 rows.length).length:=by rw[<- HHL.out];exact htl
      rw[List.take_add_one,List.getElem?_eq_getElem hx,List.map_append,aAs _ _ hx];rfl
     have HTL:Hid ((((hd2 os rows.length 0 rows.length).take t).map (fun g=>DR q n rows g.1 g.2)).length=t):=by unfold Hid;rw[List.length_map,List.length_take,<- HHL.out];omega
     obtain⟨x,hx⟩:=exE (((hd2 os rows.length 0 rows.length).getD t (0,0)).1);obtain⟨y,hy⟩:=exE (((hd2 os rows.length 0 rows.length).getD t (0,0)).2);rw[<- hx,<- hy] at hhd HSN;rw[<- hx] at c1;rw[<- hy] at c2;have hxy:x<y:=hhd.1;have hyN:y<=rows.length:=hhd.2.1;clear e2 e3 e4 e5 hx hy hhd;obtain⟨br,orr,_,_,rfl,hbr,_,_⟩:=HLR.out.row 0 h1;have hycap:y<=cap:=Nat.le_trans hyN HLR.out.room;have hxy2:x<=y:=by omega
     have hxc:¬ cap=x:=by omega
     have hadd:(⟨br,orr,none⟩:Addr).add x=⟨br,orr+x,none⟩:=by unfold Addr.add;split <;> simp_all
     obtain⟨m,hmyx⟩:∃ m,y-x=m:=⟨_,rfl⟩
     have hmy:x+m=y:=by omega
     have hyb:y<=65536:=by omega
     have HB1:Hid (Below wr.heap.size wr (wr.alloc (.cells #[.int .i64 (x:Int),.int .i64 (y:Int)] 163))):=(Below.refl _ _).alloc (Nat.le_refl _) _;have HG1:=hid (Ai wr 163 (.int .i64 (x:Int)) (.int .i64 (y:Int)));have hBr:B<wr.heap.size:=Nat.lt_of_lt_of_le (by omega) hC.out.2.1.size;have hwB:w.heap.size<B:=by have:=HOW.out.hG;have:=HOW.out.hO;omega
     go_wp2_with fail;generalize wr.alloc (.cells #[.int .i64 (x:Int),.int .i64 (y:Int)] 163)=V1 at *;have hzV:wr.heap.size<V1.heap.size:=HG1.out.lt
     have HWg:Hid (∀ W,V1.grownBy W (some B)->Below w.heap.size w W/\W.rowIs wr.heap.size 163 2 (duo (.int .i64 (x:Int)) (.int .i64 (y:Int)))/\WlkAt W (B+1) B s/\SpgAt W s b q n d):=fun W hW=>by have hbw:=(HOW.out.below.trans (HB1.out.mono HOW.out.below.size)).grown hW (by omega) (fun k e=>by cases e;omega);refine⟨hbw,HG1.out.of_block (qY hW hzV (by omega)),?_,HSP.out.keep hbw⟩;have e1:wr.heap[B+1]?=w8.heap[B+1]?:=hC.out.2.1.block _ (by omega) (by omega) (by omega);have e2:V1.heap[B+1]?=wr.heap[B+1]?:=HB1.out.block _ (by have:=hC.out.2.1.size;omega);exact HWL8.out.block ((qY hW (by have:=hC.out.2.1.size;omega) (by omega)).trans (e2.trans e1))
     have HPV:Hid (Pair O B w8 V1):=Hf hC.out.2.1 (HB1.out.mono hC.out.2.1.size) (by omega);have HOV1:=hid (hC.out.1.of_block (HB1.out.block _ hC.out.1.lt));have HOR1:=hid (hC.out.2.2.2.keep HB1.out)
     have HMV:Hid (∃ M,MapIs V1 B M/\Snd M (DR q n rows)):=by obtain⟨M,hM,hS⟩:=hC.out.2.2.1;exact⟨M,hM.below HB1.out hBr,hS⟩
     clear hC HB1 HG1 HOW c1 c2;generalize wr.heap.size=E at *;go_loopw [76] (fun iv wu=>∃ i:Nat,i<=m/\iv=.int .i64 i/\Hid (V1.grownBy wu (some B)/\∃ M,MapIs wu B M/\Snd M (DR q n rows)/\∀ z,x<=z->z<x+i->M z (z+1)≠none)) (fun iv _=>m-(intOf iv).toNat)
     case atStart =>
      obtain⟨M,hM,hS⟩:=HMV.out;exact⟨0,Nat.zero_le _,rfl,yZ _ _,M,hM,hS,fun z h1 h2=>by omega⟩
     case round =>
      obtain⟨i,hi,rfl,hD⟩:=hrel;obtain⟨hbw,hgE,hwk,hsp⟩:=HWg.out wr hD.out.1;by_cases hil:i<m
      ·have hil2:(i:Int)<(m:Int):=by omega
       have hks':IntKind.i64.wrap ((i:Int)+1)=(i:Int)+1:=by rw[IntKind.wrap_i64];omega
       obtain⟨z,hz⟩:=exE (x+i);have hzN:z<rows.length:=by omega
       have hwz:IntKind.i64.wrap ((x:Int)+(i:Int))=(z:Int):=by rw[IntKind.wrap_i64];omega
       obtain⟨b2,o2,ak,ck,hae,hb2,hc2,hlk⟩:=HLR.out.row z hzN;simp only[Option.some.injEq,Addr.mk.injEq] at hae;obtain⟨rfl,rfl,_⟩:=hae;have hcz:=(hbw.cell (p:=⟨br,orr+z,none⟩) hb2).trans hc2;rw[hz,<- Nat.add_assoc] at hcz;have gE0:=hgE.cell (i:=0) (by omega);have gE1:=hgE.cell (i:=1) (by omega);simp only[duo] at gE0 gE1
       have HSE:Hid (Calls Tryz.prog 127 #[.pointer (some ⟨B+1,0,none⟩),.int .i64 (z:Int),.slice ak (rat rows z).length ck] wr fun e w'=>e=.returned (.tuple #[])/\Hid (V1.grownBy w' (some B)/\∃ M,MapIs w' B M/\Snd M (DR q n rows)/\∀ z',x<=z'->z'<x+(i+1)->M z' (z'+1)≠none)):=by
        obtain⟨M,hM,hS,hF⟩:=hD.out.2;have hf:=HFR.out z hzN;refine (Ml q n d b s (B+1) B ck z ak (rat rows z) M wr HOK.out hsp hwk hM (by omega) (by have:=hf.2;omega) hf.1 ((hlk.below hbw).mono hbw.size)).mono ?_;rintro e w' ⟨rfl,hM',hg⟩;refine⟨rfl,qX hD.out.1 hg,_,hM',fun a' b' d' h=>?_,fun z' h1 h2=>?_⟩
        ·by_cases hab:a'=z/\b'=z+1
         ·rw[hab.1,hab.2,Am] at h;injection h with h
          rw[hab.1,hab.2,aE9 hzN,h]
         ·rw[yQ hab] at h;exact hS _ _ _ h
        ·by_cases hzz:z'=z
         ·rw[hzz,Am];simp
         ·rw[yQ (by omega)];exact hF z' h1 (by omega)
       obtain⟨lz,hlz⟩:=exE ((rat rows z).length);rw[<- hz,<- hlz] at hcz;rw[<- hlz,show (z:Int)=(x:Int)+(i:Int) by omega] at HSE;clear hc2 hlk hlz hbw hgE hwk hsp hD gE1;go_wp2_with fail;refine HSE.out.mono ?_;rintro e w9 ⟨rfl,HE⟩;go_wp2_with fail;go_roundw
       case rel=>exact⟨i+1,by omega,by go_num,HE⟩
       case measure=>simp[intOf];omega
      ·obtain rfl:i=m:=by omega
       have HRT:Hid (Calls Tryz.prog 128 #[.pointer (some ⟨B+1,0,none⟩),.agg #[.int .i64 (x:Int),.int .i64 (y:Int)]] wr fun e w'=>e=.returned (d4 (DR q n rows x y))/\Hid (V1.grownBy w' (some B)/\∃ M,MapIs w' B M/\Snd M (DR q n rows))):=by obtain⟨M,hM,hS,hF⟩:=hD.out.2;have hr:=Ow q n d b s (B+1) B (DR q n rows) M HOK.out (Qu h3 n rows) (Mr (y-x) x y (Nat.le_refl _) hxy hyN (fun z h1 h2=>hF z h1 (by omega))) hxy2 (by omega) M wr hsp hwk hM (fun _ _ h=>h) hS;unfold gk at hr;refine hr.mono ?_;rintro e w' ⟨rfl,⟨M',g1,g2,_⟩,hg⟩;exact⟨by rw[an4];rfl,qX hD.out.1 hg,M',g1,g2⟩
       have gE0:=hgE.cell (i:=0) (by omega);have gE1:=hgE.cell (i:=1) (by omega);simp only[duo] at gE0 gE1;clear hbw hgE hwk hsp hD;go_wp2_with fail;refine HRT.out.mono ?_;unfold d4;rintro e w9 ⟨rfl,hD9⟩;obtain⟨dg,hdg⟩:=exE (DR q n rows x y);have HDG:=hid hdg;rw[<- hdg];rw[<- hdg] at HSN;clear hdg gE0 gE1 HRT;have HAr:Hid (ArrI (w9.alloc (.cells #[.int .i64 (zat dg 0),.int .i64 (zat dg 1),.int .i64 (zat dg 2),.int .i64 (zat dg 3)] 175)) w9.heap.size 175 4 (zat dg)):=ArrI.new w9 4 175 (zat dg);have HBA:Hid (Below w9.heap.size w9 (w9.alloc (.cells #[.int .i64 (zat dg 0),.int .i64 (zat dg 1),.int .i64 (zat dg 2),.int .i64 (zat dg 3)] 175))):=(Below.refl _ _).alloc (Nat.le_refl _) _;go_wp2_with fail;generalize w9.alloc (.cells #[.int .i64 (zat dg 0),.int .i64 (zat dg 1),.int .i64 (zat dg 2),.int .i64 (zat dg 3)] 175)=W9 at *;have hP9:=aAc HPV.out hD9.out.1;have hOV:=HOV1.out.lt;have hBV:B<V1.heap.size:=by obtain⟨M,hM,_⟩:=HMV.out;exact hM.lt
       have HO9:=hid ((HOV1.out.of_block (qY hD9.out.1 hOV (by omega))).of_block (HBA.out.block _ (Nat.lt_of_lt_of_le hOV hD9.out.1.size)))
       have HNV:Hid (aDe V1 B):=fun c t' f e=>by obtain⟨M,⟨es,cl,h0,_⟩,_⟩:=HMV.out;rw[h0] at e;cases e
       have HPVw:Hid (Pair O B V1 w9):=aAc (Pair.refl _ _ _) hD9.out.1;have HOR9:=hid ((HOR1.out.pair (Vd HOV1.out) (.inr HNV.out) HPVw.out).keep HBA.out);have HP9:Hid (Pair O B w8 W9):=Hf hP9 (HBA.out.mono hP9.size) HBA.out.size
       have HM9:Hid (∃ M,MapIs W9 B M/\Snd M (DR q n rows)):=by obtain⟨M,h1,h2⟩:=hD9.out.2;exact⟨M,h1.below HBA.out h1.lt,h2⟩
       have hdl:dg.length=4:=by rw[HDG.out];exact (Qu h3 n rows x y).1
       have hb30:Below W9.heap.size W9 W9.drew:=(Below.refl _ _).drew;have HSd:Hid (SlR W9.drew dg (.slice (some ⟨w9.heap.size,0,none⟩) 4 4)):=(aAd HAr.out hdl (fun j _=>rfl) (by decide) (by decide) (by decide) (by decide) (by decide) (by decide)).keep hb30;have hz9:=HP9.out.size;obtain⟨v10,w10,hrun,ho10,hb10,hn10,hx10,hz10⟩:=Ui W9.drew w8.heap.size _ _ _ _ (HOR9.out.keep hb30) HSd.out (by rw[HTL.out];omega) hz9;rw[<- HSN.out] at ho10;obtain⟨a10,c10,e10,_⟩:=ho10.lst;have hl10:(((hd2 os rows.length 0 rows.length).take (t+1)).map (fun g=>DR q n rows g.1 g.2)).length=t+1:=by rw[List.length_map,List.length_take,<- HHL.out];omega
       rw[hl10] at e10;subst e10;have hO10:O<W9.drew.heap.size:=HO9.out.lt;have dO:=(HO9.out.of_block (hb30.block _ HO9.out.lt)).of_block (hb10.block O HO8.out.lt);have hco:=dO.cell (i:=2) (by omega);have hfo:=dO.frozen 2
       have HE:Hid ((w10.setCell ⟨O,2,none⟩ (.slice a10 (t+1) c10)).rowIs O 51 3 (tri (.slice ao os.length co) (.slice ar os.length cr) (.slice a10 (t+1) c10))/\Pair O B w8 (w10.setCell ⟨O,2,none⟩ (.slice a10 (t+1) c10))/\(∃ M,MapIs (w10.setCell ⟨O,2,none⟩ (.slice a10 (t+1) c10)) B M/\Snd M (DR q n rows))/\OwnR w8.heap.size (w10.setCell ⟨O,2,none⟩ (.slice a10 (t+1) c10)) (.slice a10 (t+1) c10) (((hd2 os rows.length 0 rows.length).take (t+1)).map (fun g=>DR q n rows g.1 g.2))):=by refine⟨Vc dO _,(Hf (HP9.out.drew) hb10 hz10).setCell (p:=⟨O,2,none⟩) (.inl rfl) _,?_,ho10.setO (Vd dO)⟩;obtain⟨M,h1,h2⟩:=HM9.out;refine⟨M,h1.block ?_,h2⟩;rw[Below.heap_setCell _ _ _ _ (by show B≠O;omega)];exact (hb10.block B (by omega)).trans (hb30.block B h1.lt)
       have HKe:Hid (∀ W,Below W9.heap.size W9 W->W.cell? ⟨O,2,none⟩=some (.slice an' t cn)):=fun W h=>(h.cell (p:=⟨O,2,none⟩) HO9.out.lt).trans (HO9.out.cell (i:=2) (by omega));simp only[tri] at hco;clear hP9 ho10 hb10 hn10 hx10 dO hl10 hD9;refine jQ (C:=fun W=>Below W9.heap.size W9 W) (st:=[4,6]) hmx ?_;show jY _ _ _ _ _ _ 7 (Array.replicate 7 false) _ _;refine psU 0 (.pointer (some ⟨O,2,none⟩)) rfl (fun W _=>?_) (fun _=>hb30) ?_
       ·go_simp
       refine psT 1 (.slice an' t cn) rfl (fun W hC=>?_) hb30 ?_
       ·have q0:=HKe.out W hC;go_simp
       refine psU 2 (.slice (some ⟨w9.heap.size,0,none⟩) 4 4) rfl (fun W _=>?_) (fun _=>hb30) ?_
       ·go_simp
       refine Ad 3 fun K' hK'=>?_;go_simp;refine hK' _ _ ⟨fun _=>hb30.alloc hb30.size _,?_⟩;clear hK' K';refine Ad 4 fun K' hK'=>?_;refine Be _ _ _ _ rfl rfl _ _ _ _ hrun rfl rfl ?_;refine hK' _ _ ⟨fun h=>absurd (h 4 (by simp)) (by decide),?_⟩;clear hK' K';refine Ad 5 fun K' hK'=>?_;go_simp;refine hK' _ _ ⟨fun h=>absurd (h 4 (by simp)) (by decide),?_⟩;clear hK' K';refine Ad 6 fun K' hK'=>?_;go_simp;refine hK' _ _ ⟨fun h=>absurd (h 4 (by simp)) (by decide),kJ (by kernel_rfl) ?_ _⟩;clear hK' K';go_wp2_with fail;go_roundw
       case rel=>exact⟨t+1,a10,c10,by omega,by go_num,HE⟩
       case measure=>simp[intOf];omega
    ·obtain rfl:t=hl:=by omega
     have hEE:=hC.out;have hEE2:=hEE.2.2.2;rw[show (hd2 os rows.length 0 rows.length).take t=hd2 os rows.length 0 rows.length from by rw[HHL.out,List.take_length],<- Qv q n rows os h1] at hEE2;have HC2:=hid hEE2;have hnl:(ndf q n rows.length rows os 0).length=t:=by rw[Qv q n rows os h1,List.length_map,<- HHL.out]
     have HR:=hid HOW.out.res;have k0:=hC.out.1.cell (i:=0) (by omega);have k1:=hC.out.1.cell (i:=1) (by omega);have k2:=hC.out.1.cell (i:=2) (by omega);simp only[tri] at k0 k1 k2;have r0:=HR.out.cell (i:=0) (by omega);have r1:=HR.out.cell (i:=1) (by omega);have r2:=HR.out.cell (i:=2) (by omega);have y0:=HR.out.frozen 0;have y1:=HR.out.frozen 1;have y2:=HR.out.frozen 2;have HVR:=hid (HOR8.out.pair HOW8.out.isO (.inr HNB.out) hC.out.2.1);clear hC hEE hEE2;go_wp2_with fail;have HF:=hid (Hq (Vc (Nf (Ng HR.out (.slice ao os.length co)) (.slice ar os.length cr)) (.slice an' t cn)));refine bodyPost_ret (Aq rfl _ _ w.heap.size 51 _ (0,0) _ rfl HF.out Tryz.underlying51 rfl (by kernel_rfl)) rfl ?_;have i0:=Vd HR.out;have i1:=Vd (Ng HR.out (.slice ao os.length co));have i2:=Vd (Nf (Ng HR.out (.slice ao os.length co)) (.slice ar os.length cr));have hsl:=Dj q rows os;have hw8:w.heap.size<=w8.heap.size:=HOW8.out.below.size;have hw6:w.heap.size<=W6.heap.size:=HOB.out.below.size;refine⟨os,ao,ar,an',co,cr,cn,by rw[hsl,hnl];rfl,HOS.out,((HOW.out.places.setO i0).setO i1).setO i2,?_,?_,((HOW.out.below.setCell (p:=⟨w.heap.size,0,none⟩) (Nat.le_refl _) _).setCell (p:=⟨w.heap.size,1,none⟩) (Nat.le_refl _) _).setCell (p:=⟨w.heap.size,2,none⟩) (Nat.le_refl _) _⟩
     ·rw[hsl];exact ((((HVR.out).setO i0).setO i1).setO i2).mono hw6
     ·rw[hnl];exact (((HC2.out.setO i0).setO i1).setO i2).mono hw8
theorem aDj (h:OnceIs [] os):os=[]:=by
 cases os with
 | nil=>rfl
 | cons x l=>exact absurd ((h.2 x).1 (by simp)) (by simp)
theorem aEC (q n:Nat) (rows:List (List Int)) (h:1<=rows.length):ndf q n rows.length rows [] 0=[rtf q n rows.length rows]:=by
 obtain⟨k,hk⟩:∃ k,rows.length=k+1:=⟨rows.length-1,by omega⟩
 rw[hk,ndf,if_pos (by simp[smb])]
theorem Eb (v:Nat):2 ^ v=2 ^ (v-v / 2)*2 ^ (v / 2):=by
 rw[<- Nat.pow_add]
 congr 1
 omega
def ctz (q n:Nat) (s r:Int) (N v:Nat) (t:List Int):List Int:=rtf q n N (cll q s r N (rwl (2 ^ (v-v / 2)) (2 ^ (v / 2)) t))
theorem Je{n0:Nat}{c:Nat} (h:Lst n0 w a c t) (h0:0<t.length):∃ ap o,a=some ⟨ap,o,none⟩:=by
 obtain⟨b,o,e,_⟩:=h.row 0 h0;exact⟨b,o,e⟩
def CmO (N n:Nat):Prop:=∃ v,v<=12/\n=2 ^ v/\2 ^ (v-v / 2)<=N / 2
theorem aBd (sp b d n cp N:Nat) (r s:Int) (a:Option Addr) (w:World) (hD:DomAt w d b (N:Int) r s) (hN16:N<=65536) (hT:TabAt 1 Lib.deBruijn64tab w) (hn:n<=9223372036854775807) (hno:¬ CmO N n) :
  Calls Tryz.prog 12 #[.pointer (some ⟨sp,0,none⟩),.pointer (some ⟨d,0,none⟩),.slice a n cp] w fun e w'=>e=.returned (.tuple #[.slice none 0 0,.iface 72 (.int .i64 2)])/\Below w.heap.size w w':=by
 have HSH:Hid (∃ x1 x2 x3 x4,Calls Tryz.prog 29 #[.pointer (some ⟨d,0,none⟩),.slice a n cp] w fun e w'=>e=.returned (.tuple #[.agg #[.pointer x1,.pointer x2,.int .i64 x3,.int .i64 x4],.bool false])/\Below w.heap.size w w'):=by
  by_cases h:∀ v,v<=12->n≠2 ^ v
  ·exact⟨_,_,_,_,Mt d n cp a w hn h hT⟩
  ·have ⟨v,hv,hvn⟩:∃ v,v<=12/\n=2 ^ v:=Classical.byContradiction fun hc=>h fun v hv e=>hc ⟨v,hv,e⟩;subst hvn;have h2:=Au d b v N cp r s a w hD hv hN16 hT;rw[decide_eq_false (fun hh=>hno ⟨v,hv,rfl,hh⟩)] at h2;exact⟨_,_,_,_,h2⟩
 obtain⟨x1,x2,x3,x4,hsh⟩:=HSH.out;have HSX:=hid hsh;clear hsh HSH hD hT hno;go_enter Tryz.func12,Tryz.ntmps12;go_wp2_with fail;refine HSX.out.mono ?_;rintro e w1 ⟨rfl,hb1⟩;have HE:Hid (Below w.heap.size w (w1.alloc (.cells #[.pointer x1,.pointer x2,.int .i64 x3,.int .i64 x4] 97))):=hb1.alloc hb1.size _;clear hb1 HSX;go_wp2_with fail;go_ret2;exact⟨rfl,HE.out⟩
end Go.Proofs.YtkdndfbfmchcpaaGreatDoor
