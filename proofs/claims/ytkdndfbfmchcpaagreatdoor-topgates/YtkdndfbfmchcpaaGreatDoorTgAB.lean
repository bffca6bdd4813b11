
import Derived.Test.YtkdndfbfmchcpaaGreatDoorTgAA
import Derived.Sort.OwnSortedInts
import Derived.RangeFuncNested
import Derived.RangeFuncBound
import Derived.RangeFuncCalls
import Derived.RangeFuncLeaves
import Derived.RangeFuncBox
import Derived.RangeFuncWrites
import Derived.Shelf.Abstract
import Derived.OwnWalkIn
import Derived.TacticsInMore
import Derived.LoopNIn
import Derived.LoopIn
import Derived.Shelf.RegionOpen
import Derived.RegionIn
import Derived.OrdersIn
import Derived.Sort.CutIn
set_option maxRecDepth 1000000
set_option maxHeartbeats 8000000
namespace Go.Proofs.YtkdndfbfmchcpaaGreatDoor
open Go.RowKit
def Unl (p:Nat) (f:Nat->Int) (n:Nat):Prop:=∀ i j,i<j->j<n->f i % (p:Int)≠f j % (p:Int)
noncomputable def unlB (p:Nat) (zs:List Int):Bool:=@decide (Unl p (zat zs) zs.length) (Classical.propDecidable _)
theorem Sq {p:Nat} {zs:List Int} (h:Unl p (zat zs) zs.length):unlB p zs=true:=by unfold unlB;exact @decide_eq_true _ (Classical.propDecidable _) h
theorem aEa {p:Nat} {zs:List Int} (h:¬ Unl p (zat zs) zs.length):unlB p zs=false:=by unfold unlB;exact @decide_eq_false _ (Classical.propDecidable _) h
open Go.RowKit Go.Sort
theorem Wn {p:Nat->Bool} (n:Nat):((List.range n).filter p).length=n↔∀ j,j<n->p j=true:=by
 induction n with
 | zero=>simp
 | succ n ih =>
  rw[List.range_succ,List.filter_append,List.length_append]
  have hle:((List.range n).filter p).length<=n:=by have:=List.length_filter_le p (List.range n);simpa using this
  constructor
  ·intro h j hj;have h2:((List.filter p [n]).length)<=1:=by have:=List.length_filter_le p [n];simpa using this
   have h3:((List.range n).filter p).length=n:=by omega
   by_cases e:j=n
   ·subst e;rcases hp:p j with _ | _
    ·simp[hp] at h;omega
    ·rfl
   ·exact ih.1 h3 j (by omega)
  ·intro h;rw[ih.2 (fun j hj=>h j (by omega))];simp[h n (by omega)]
theorem Sr (l:List Int):(Lib.compact l).length=l.length↔∀ j,0<j->j<l.length->zat l j≠zat l (j-1):=by
 unfold Lib.compact Lib.compactUpTo;rw[List.length_map,Wn];have hg:∀ j,j<l.length->l.toArray[j]! = zat l j:=fun j hj=>by simp[zat,hj]
 constructor
 ·intro h j h0 hj;have:=h j hj;simp only[Lib.keeps,decide_eq_true_eq] at this;rw[hg j hj,hg (j-1) (by omega)] at this;exact this.resolve_left (by omega)
 ·intro h j hj;simp only[Lib.keeps,decide_eq_true_eq];by_cases h0:j=0
  ·exact Or.inl h0
  ·right;rw[hg j hj,hg (j-1) (by omega)];exact h j (by omega) hj
theorem Gc (l:List Int) (j:Nat) (h:j<l.length):zat l j=l[j]:=by simp[zat,h]
theorem Wp (l:List Int) (hs:l.Pairwise (·<=·)):(∀ j,0<j->j<l.length->zat l j≠zat l (j-1))↔l.Nodup:=by
 rw[List.pairwise_iff_getElem] at hs;constructor
 ·intro h;rw[List.Nodup,List.pairwise_iff_getElem];intro i j hi hj hij he;have h1:=h (i+1) (by omega) (by omega);rw[Gc l (i+1) (by omega),Nat.add_sub_cancel,Gc l i hi] at h1;have a1:=hs i (i+1) hi (by omega) (by omega);by_cases e:i+1=j
  ·subst e;exact h1 he.symm
  ·have a2:=hs (i+1) j (by omega) hj (by omega);omega
 ·intro h j h0 hj he;rw[List.Nodup,List.pairwise_iff_getElem] at h;rw[Gc l j hj,Gc l (j-1) (by omega)] at he;exact h (j-1) j (by omega) hj (by omega) he.symm
theorem Ss (l:List Int):(l.mergeSort fun x y=>decide (x<=y)).length=l.length:=by simp
theorem Wq (l:List Int):(Lib.compact (l.mergeSort fun x y=>decide (x<=y))).length=l.length↔l.Nodup:=by
 have hs:(l.mergeSort fun x y=>decide (x<=y)).Pairwise (·<=·):=by have:=List.pairwise_mergeSort (le:=fun x y:Int=>decide (x<=y)) (fun a b c h1 h2=>by simp at *;omega) (fun a b=>by simp;omega) l;exact this.imp (fun h=>by simpa using h)
 have hp:(l.mergeSort fun x y=>decide (x<=y)).Perm l:=List.mergeSort_perm l _;rw[<- hp.nodup_iff,<- Wp _ hs,<- Sr,Ss]
theorem aFp (p:Nat) (xs:List Int):Unl p (zat xs) xs.length↔(ls (fun j=>zat xs j % (p:Int)) xs.length).Nodup:=by
 rw[List.Nodup,List.pairwise_iff_getElem]
 have hg:∀ j (h:j<(ls (fun j=>zat xs j % (p:Int)) xs.length).length),(ls (fun j=>zat xs j % (p:Int)) xs.length)[j]=zat xs j % (p:Int):=fun j h=>by rw[<- Gc _ j h,kZ _ _ _ (by rw[kQ] at h;exact h)]
 constructor
 ·intro h i j hi hj hij;rw[hg i hi,hg j hj];rw[kQ] at hj;exact h i j hij hj
 ·intro h i j hij hj;have:=h i j (by rw[kQ];omega) (by rw[kQ];exact hj) hij;rw[hg,hg] at this;exact this
theorem aCd (p:Nat) (xs:List Int):(((Lib.compact ((ls (fun j=>zat xs j % (p:Int)) xs.length).mergeSort fun x y=>decide (x<=y))).length:Int)==(xs.length:Int))=unlB p xs:=by
 have h:=Wq (ls (fun j=>zat xs j % (p:Int)) xs.length);rw[kQ,<- aFp] at h;by_cases hu:Unl p (zat xs) xs.length
 ·rw[Sq hu,beq_iff_eq,h.2 hu]
 ·rw[aEa hu,beq_eq_false_iff_ne];intro e;exact hu (h.1 (by omega))
theorem St {g:Nat} {zs:List Int} {w:World} (h:Cells g 0 zs.length (zat zs) w):Holds (Value.int .i64) w g 0 zs.toArray:=fun j hj=>by
 have hj':j<zs.length:=by simpa using hj
 have:=h.cells j hj';refine⟨?_,h.soft j hj'⟩;rw[this];simp[zat,hj']
theorem Of {w:World} {n0 g n:Nat} (d:Array Int) (hg:n0<=g):Below n0 w (putRow (Value.int .i64) (Sort.ahead w n) g 0 d):=by
 refine⟨rfl,rfl,rfl,by simp[Sort.ahead],fun k hk=>?_⟩;simp only[putRow,mapBlock,Sort.ahead,Array.getElem?_modify];rw[if_neg (by omega)]
theorem Wr {w w':World} {n0:Nat} (h:Below n0 w w') (hn:n0<=w'.heap.size) (os:Array Obj):Below n0 w (grow w' os) :=
 h.trans ⟨rfl,rfl,rfl,by simp[grow],fun k hk=>by simp only[grow];rw[Array.getElem?_append_left (by omega)]⟩
theorem Np (p b cap:Nat) (a:Option Addr) (xs:List Int) (w:World) (h3:3<=p) (hm:p<=2147483647) (hp:w.cell? ⟨b,0,none⟩=some (.int .i64 p))
  (hn:xs.length<=17592186044416) (hfit:Fits xs) (hrow:RowB w.heap.size w a xs) :
  Calls Tryz.prog 147 #[.pointer (some ⟨b,0,none⟩),.slice a xs.length cap] w fun e w'=>e=.returned (.bool (unlB p xs))/\Below w.heap.size w w':=by
 have hb:b<w.heap.size:=qK hp;have HF:=hid hfit;have HR:=hid hrow;have HU:=hid (aCd p xs);clear hfit hrow;have hmk:=fun n h1 h2 w=>run_make_row' (P:=Tryz.prog) 25 3 (.int .i64 0) 8 Tryz.underlying25 Tryz.infoInt rfl .i64 .i64 n h1 h2 w;have hmk2:=hmk xs.length (by omega) (by omega);clear hmk;go_enter Tryz.func147,Tryz.ntmps147;go_wp2_with fail
 go_loopw [13] (fun iv wr=>∃ (k:Nat) (o:Nat->Int),k<=xs.length/\iv=.int .i64 k/\Hid (Cells w.heap.size 0 xs.length o wr)/\Hid (∀ j,j<k->o j=zat xs j % (p:Int))/\Hid (Below w.heap.size w wr)/\wr.heap.size=w.heap.size+1)
  (fun iv _=>xs.length-(intOf iv).toNat)
 case atStart =>
  refine⟨0,fun _=>0,Nat.zero_le _,rfl,⟨fun j hj=>?_,fun j hj=>?_⟩,fun j hj=>by omega,?_,by simp⟩
  ·rw[World.cell?_alloc_at _ _ _ _ (by simp)];simp[madeCells,hj,Nat.mod_one]
  ·simp
  ·exact (Below.refl _ _).alloc (Nat.le_refl _) _
 case round =>
  obtain⟨k,o,hk,rfl,hout,hoj,hbel,hsz⟩:=hrel;by_cases hlt:k<xs.length
  ·have hlt2:(k:Int)<(xs.length:Int):=by omega
   obtain⟨bl,ol,rfl,hbl,hcl⟩:=HR.out k hlt;have hcl2:=(hbel.out.cell (p:=⟨bl,ol+k,none⟩) hbl).trans hcl;have hok:=hout.out.cells k hlt;have hos:=hout.out.soft k hlt;rw[Nat.zero_add] at hok hos;have hpc:=(hbel.out.cell (p:=⟨b,0,none⟩) hb).trans hp;obtain⟨hx1,hx2⟩:=HF.out k hlt;have HC:=hid (hout.out.set (zat xs k % (p:Int)) hlt);have HB:=hid (hbel.out.setCell (p:=⟨w.heap.size,0+k,none⟩) (by simp) (.int .i64 (zat xs k % (p:Int))))
   have HJ:Hid (∀ j,j<k+1->up o k (zat xs k % (p:Int)) j=zat xs j % (p:Int)):=fun j hj=>by
    unfold up;by_cases hjk:j=k
    ·rw[if_pos hjk,hjk]
    ·rw[if_neg hjk];exact hoj.out j (by omega)
   rw[Nat.zero_add] at HC HB;generalize zat xs k=x at *;clear hcl;go_wp2_with fail;refine (zZ p b x _ h3 hm hpc hx1 hx2).mono ?_;rintro e w2 ⟨rfl,rfl⟩;go_wp2_with fail;go_roundw
   case rel=>exact⟨k+1,_,by omega,by go_num,HC,HJ,HB,by simp[World.setCell];exact hsz⟩
   case measure=>simp[intOf];omega
  ·have hlt2:¬ (k:Int)<(xs.length:Int):=by omega
   have hll:=kQ (fun j=>zat xs j % (p:Int)) xs.length
   have hcs:Cells w.heap.size 0 (ls (fun j=>zat xs j % (p:Int)) xs.length).length (zat (ls (fun j=>zat xs j % (p:Int)) xs.length)) wr:=by rw[hll];exact hout.out.congr (fun j hj=>by rw[kZ _ _ _ hj];exact hoj.out j (by omega))
   have hH:=St hcs;have hsl:=Ss (ls (fun j=>zat xs j % (p:Int)) xs.length);have HS:=hid (Tryz.sort_any w.heap.size 0 xs.length (ls (fun j=>zat xs j % (p:Int)) xs.length) wr hH (by omega) (by omega));rw[hll] at HS;have HH:=hid hH
   have HC:Hid (∀ (n:Nat) (os:Array Obj),Calls Tryz.prog 91 #[.slice (some ⟨w.heap.size,0,none⟩) xs.length xs.length] (grow (putRow (Value.int .i64) (Sort.ahead wr n) w.heap.size 0 ((ls (fun j=>zat xs j % (p:Int)) xs.length).mergeSort fun x y=>decide (x<=y)).toArray) os) fun e w' =>
     e=.returned (.slice (some ⟨w.heap.size,0,none⟩) (Lib.compact ((ls (fun j=>zat xs j % (p:Int)) xs.length).mergeSort fun x y=>decide (x<=y))).length xs.length)/\Below w.heap.size w w'):=fun n os=>by
    have hh:=holds_grow (Value.int .i64) _ os w.heap.size 0 _ (by simp[Sort.ahead];omega) (holds_putRow (Value.int .i64) (Sort.ahead wr n) w.heap.size 0 _ ((ls (fun j=>zat xs j % (p:Int)) xs.length).mergeSort fun x y=>decide (x<=y)).toArray (holds_ahead _ _ n _ _ _ HH.out) (by simp));have hcc:=Tryz.compact_any w.heap.size 0 xs.length _ _ hh (by omega) (by omega);rw[hsl,hll] at hcc;refine hcc.mono ?_;rintro e w' ⟨rfl,q,rfl⟩;exact⟨rfl,(hbel.out.trans (Wr (Of _ (Nat.le_refl _)) (by simp[Sort.ahead];omega) os)).trans (Of _ (Nat.le_refl _))⟩
   generalize (Lib.compact ((ls (fun j=>zat xs j % (p:Int)) xs.length).mergeSort fun x y=>decide (x<=y))).length=cl at *;generalize (ls (fun j=>zat xs j % (p:Int)) xs.length).mergeSort (fun x y=>decide (x<=y))=ms at *;clear hcs hH hsl hll HH;go_wp2_with fail;refine HS.out.mono ?_;rintro e w2 ⟨rfl,n,os,rfl⟩;have HC2:=hid (HC.out n os);generalize grow (putRow (Value.int .i64) (Sort.ahead wr n) w.heap.size 0 ms.toArray) os=w3 at *;go_wp2_with fail;refine HC2.out.mono ?_;rintro e w4 ⟨rfl,hb4⟩;have HB4:=hid hb4;clear hb4;go_wp2_with fail;go_ret;exact⟨Ck HU.out,HB4.out⟩
open Go.RowKit Go.Shelf
attribute [local go_sem] Oper.semAt_some
def upto {α:Type} (f:Nat->α) (k:Nat):List α:=(List.range k).map f
theorem Og {α:Type} (f:Nat->α) (k:Nat):upto f (k+1)=upto f k++[f k]:=by simp[upto,List.range_succ]
def Gd (zs:List Int) (pre:List (Fin zs.length)) (k:Nat):Prop:=pre.map (fun i=>i.val)=upto (fun j=>zs.length-1-j) k
theorem Su (zs:List Int):Gd zs [] 0:=rfl
theorem aAF {zs:List Int} {pre:List (Fin zs.length)} {k:Nat} (h:Gd zs pre k) (x:Fin zs.length) (hx:x.val=zs.length-1-k):Gd zs (pre++[x]) (k+1):=by
 unfold Gd at *;rw[List.map_append,h,Og];simp[hx]
theorem Cc {zs:List Int} {pre:List (Fin zs.length)} {k:Nat} (h:Gd zs pre k):pre.length=k:=by
 have:=congrArg List.length h;simpa [upto] using this
theorem Sv {zs:List Int} {pre:List (Fin zs.length)} {x:Fin zs.length} {k:Nat} (h:Gd zs (pre++[x]) (k+1)):Gd zs pre k/\x.val=zs.length-1-k:=by
 unfold Gd at *;rw[List.map_append,Og] at h;obtain⟨h1,h2⟩:=List.append_inj' h rfl;exact⟨h1,by simpa using h2⟩
def KeepsB (n0 Bs:Nat) (A B:World):Prop:=Below n0 A B/\B.cell? ⟨Bs,0,none⟩=A.cell? ⟨Bs,0,none⟩
theorem KeepsB.refl (n0 Bs:Nat) (A:World):KeepsB n0 Bs A A:=⟨Below.refl _ _,rfl⟩
theorem KeepsB.trans {n0 Bs:Nat} {A B C:World} (h:KeepsB n0 Bs A B) (k:KeepsB n0 Bs B C):KeepsB n0 Bs A C:=⟨h.1.trans k.1,k.2.trans h.2⟩
theorem aCe (F:Fence) (n:Nat) (hf:F.fn 189) (hro:F.round=none) (hn:1<=n) (l Bs n0 cap:Nat) (a:Option Addr) (zs:List Int) (hlen:zs.length<=140737488351232) (J Jx:List (Fin zs.length)->World->Prop)
  (hY:∀ pre x W,J pre W->pre.length<zs.length->YieldAt F (n-1) Tryz.prog l #[.int .i64 (x.val:Int),.int .i64 (zat zs x.val)] W fun e W' =>
   (e=.returned (.bool true)/\J (pre++[x]) W'/\KeepsB n0 Bs W W')∨(e=.returned (.bool false)/\Jx (pre++[x]) W'))
  (W:World) (hBs:W.cell? ⟨Bs,0,none⟩=some (.slice a zs.length cap)) (hc:RowB n0 W a zs) (h0:J [] W) :
  CallsIn F n Tryz.prog 189 #[.func (.yield l) #[] #[],.pointer (some ⟨Bs,0,none⟩)] W fun e W'=>(∃ v,e=.returned v) /\
   ((∃ ys,Gd zs ys zs.length/\J ys W')∨(∃ pre,True/\Jx pre W')):=by
 have HC:=hid hc;clear hc;refine callsIn_of_wp Tryz.func189 rfl hf ?_ hro;simp only[Tryz.ntmps189,List.size_toArray,List.length_cons,List.length_nil,Nat.reduceAdd,Nat.reduceSub,Array.replicate_succ,Array.replicate_zero,List.push_toArray,List.append_toArray,List.nil_append,List.cons_append]
 gi_wp2
 gi_loopw [3] (fun i wr=>∃ (k:Nat) (pre:List (Fin zs.length)),((i=.int .i64 (-1)/\k=zs.length)∨(∃ j:Nat,i=.int .i64 j/\j+k+1=zs.length))/\Hid (Gd zs pre k)/\J pre wr/\Hid (KeepsB n0 Bs W wr))
  (fun i _=>((intOf i)+1).toNat)
 case atStart =>
  by_cases hz:zs.length=0
  ·exact⟨0,[],.inl ⟨by rw[hz];rfl,hz.symm⟩,Su zs,h0,KeepsB.refl _ _ _⟩
  ·exact⟨0,[],.inr ⟨zs.length-1,by go_num,by omega⟩,Su zs,h0,KeepsB.refl _ _ _⟩
 case round =>
  obtain⟨k,pre,⟨rfl,rfl⟩ | ⟨j,rfl,hjk⟩,hcame,hJs,hkp⟩:=hrel
  ·gi_wp2
   go_end0;exact⟨⟨_,rfl⟩,.inl ⟨_,hcame.out,hJs⟩⟩
  ·have hjl:j<zs.length:=by omega
   obtain⟨b,o,rfl,hbn,hcell⟩:=HC.out j hjl;have hcell2:=(hkp.out.1.cell (p:=⟨b,o+j,none⟩) hbn).trans hcell;have hBs2:=hkp.out.2.trans hBs;obtain⟨fn,tmps,assign,body,hy,hR⟩:=hY pre ⟨j,hjl⟩ wr hJs (by rw[Cc hcame.out];omega);have HCM:=hid (aAF hcame.out ⟨j,hjl⟩ (by show j=_;omega));have HJK:=hid hjk;clear hjk hcell HC hcame;dsimp only at hy;generalize zat zs j=x at *
   gi_wp2
   refine hR.mono ?_;rintro e W3 (⟨rfl,hJ3,hk3⟩ | ⟨rfl,hJx3⟩)
   ·have HK3:=hid hk3;clear hk3;by_cases hj0:j=0
    ·subst hj0
     gi_wp2
     go_roundw
     case rel=>exact⟨k+1,_,.inl ⟨rfl,by have:=HJK.out;omega⟩,HCM,hJ3,hkp.out.trans HK3.out⟩
     case measure=>simp[intOf]
    ·obtain⟨j',rfl⟩:∃ j',j=j'+1:=⟨j-1,by omega⟩
     gi_wp2
     go_roundw
     case rel=>exact⟨k+1,_,.inr ⟨j',by go_num,by have:=HJK.out;omega⟩,HCM,hJ3,hkp.out.trans HK3.out⟩
     case measure=>simp[intOf];omega
   ·gi_wp2
    refine bodyPost_ret (results_none rfl _ _ _) rfl ?_;exact⟨⟨_,rfl⟩,.inr ⟨_,trivial,hJx3⟩⟩
theorem aEb (F:Fence) (n:Nat) (hf:F.fn 176) (hro:F.round=none) (a:Option Addr) (len cap:Nat) (w:World) :
  CallsIn F n Tryz.prog 176 #[.slice a len cap] w fun e w'=>e=.returned (.func (.func 189) #[] #[.pointer (some ⟨w.heap.size,0,none⟩)])/\w'=w.alloc (.cells #[.slice a len cap] 25):=by
 refine callsIn_of_wp Tryz.func176 rfl hf ?_ hro;simp only[Tryz.ntmps176,List.size_toArray,List.length_cons,List.length_nil,Nat.reduceAdd,Nat.reduceSub,Array.replicate_succ,Array.replicate_zero,List.push_toArray,List.append_toArray,List.nil_append,List.cons_append]
 gi_wp2
 go_ret;exact⟨rfl,rfl⟩
theorem Ws (F:Fence) (n:Nat) (hf:F.fn 189) (hro:F.round=none) (hn:1<=n) (Bs n0 cap:Nat) (a:Option Addr) (zs:List Int) (hlen:zs.length<=140737488351232) (w:World) (hn0:n0<=w.heap.size)
  (hc:w.cell? ⟨Bs,0,none⟩=some (.slice a zs.length cap)) (hbs:Bs<w.heap.size) (hI:RowB n0 w a zs) :
  SeqStopsK F n Tryz.prog 189 #[.pointer (some ⟨Bs,0,none⟩)] (fun x:Fin zs.length=>#[Value.int .i64 (x.val:Int),Value.int .i64 (zat zs x.val)]) (KeepsB n0 Bs) (fun ys=>Gd zs ys zs.length)
   (fun _=>True) zs.length w:=fun l J Jx W hW _ _ hY h0 =>
 aCe F n hf hro hn l Bs n0 cap a zs hlen J Jx hY W ((hW.cell (p:=⟨Bs,0,none⟩) hbs).trans hc) (RowB.below (hW.mono hn0) hI) h0
def prz (p:Nat) (l:List Int):Nat:=l.foldl (fun acc z=>if z % (p:Int)=0 then acc else acc*el p z % p) 1
theorem aCf (p:Nat) (l:List Int) (z:Int):prz p (l++[z])=if z % (p:Int)=0 then prz p l else prz p l*el p z % p:=by simp[prz]
theorem Wt {p:Nat} {z:Int} (h3:3<=p) (h:z % (p:Int)≠0):0<el p z:=by
 have:=(qQ z p h3).1;unfold el;omega
theorem aCg (p:Nat) (hp:Num.Prime p) (h3:3<=p) (l:List Int):prz p l<p/\¬ p∣prz p l:=by
 have key:∀ (l:List Int) (acc:Nat),acc<p->¬ p∣acc->(l.foldl (fun acc z=>if z % (p:Int)=0 then acc else acc*el p z % p) acc)<p/\¬ p∣(l.foldl (fun acc z=>if z % (p:Int)=0 then acc else acc*el p z % p) acc):=by
  intro l
  induction l with
  | nil=>intro acc h1 h2;exact⟨h1,h2⟩
  | cons z l ih =>
   intro acc h1 h2;rw[List.foldl_cons];by_cases hz:z % (p:Int)=0
   ·rw[if_pos hz];exact ih acc h1 h2
   ·rw[if_neg hz];refine ih _ (Nat.mod_lt _ (by omega)) (fun hd=>?_);have hd2:p∣acc*el p z:=(Nat.dvd_mod_iff (Nat.dvd_refl p)).1 hd;rcases Num.euclid hp hd2 with g | g
    ·exact h2 g
    ·exact Num.not_dvd_lt (Wt h3 hz) (Yv p z h3) g
 exact key l 1 (by omega) (fun h=>by have:=Nat.le_of_dvd (by omega) h;omega)
def pkI (p:Nat) (zs:List Int) (k:Nat):Nat:=prz p (zs.take k)
theorem Lh (p:Nat) (zs:List Int) (k:Nat) (h:k<zs.length):pkI p zs (k+1)=if zat zs k % (p:Int)=0 then pkI p zs k else pkI p zs k*el p (zat zs k) % p:=by
 unfold pkI;rw[List.take_succ_eq_append_getElem h,aCf];simp[h,zat]
theorem aCh (p:Nat) (hp:Num.Prime p) (h3:3<=p) (zs:List Int) (k:Nat):pkI p zs k<p:=(aCg p hp h3 _).1
theorem aFq (p:Nat) (hp:Num.Prime p) (h3:3<=p) (zs:List Int) (k:Nat):¬ p∣pkI p zs k:=(aCg p hp h3 _).2
theorem Zh {p:Nat} (hp:Num.Prime p) (h3:3<=p) {z:Int} (h:z % (p:Int)≠0):yX p z*el p z % p=1:=by
 have h1:=Wt h3 h;have h2:=Yv p z h3;unfold yX;have:el p z=Num.pwm p (el p z) 1:=(Num.pwm_one p _ h2).symm;rw[show Num.pwm p (el p z) (p-2)*el p z=Num.pwm p (el p z) (p-2)*Num.pwm p (el p z) 1 from by rw[<- this],Num.pwm_add,show p-2+1=p-1 from by omega];exact Num.pwm_fermat hp h1 h2
theorem aCi {p:Nat} (h3:3<=p) {z:Int} (h:z % (p:Int)=0):yX p z=0:=by
 have he:el p z=0:=by unfold el;rw[h];rfl
 unfold yX;rw[he,Ev p _ (by omega)]
theorem Wu {p x y e:Nat} (hp:Num.Prime p) (hx:x<p) (hy:y<p) (he:¬ p∣e) (h1:x*e % p=1) (h2:y*e % p=1):x=y:=by
 have:e*x % p=e*y % p:=by rw[Nat.mul_comm,h1,Nat.mul_comm,h2]
 have:=Num.cancel hp he this
 rwa [Nat.mod_eq_of_lt hx,Nat.mod_eq_of_lt hy] at this
structure IG (p:Nat) (zs:List Int) (i:Nat) (o:Nat->Nat) (v:Nat):Prop where
 ahead:∀ j,j<i->o j=pkI p zs j
 behind:∀ j,i<=j->j<zs.length->o j=yX p (zat zs j)
 one:v*pkI p zs i % p=1
def Fd (o:Nat->Nat) (i x:Nat):Nat->Nat:=fun j=>if j=i then x else o j
theorem IG.skip {p:Nat} {zs:List Int} {i:Nat} {o:Nat->Nat} {v:Nat} (h3:3<=p) (h:IG p zs (i+1) o v) (hi:i<zs.length) (hz:zat zs i % (p:Int)=0):IG p zs i (Fd o i 0) v:=by
 have e:=Lh p zs i hi;rw[if_pos hz] at e;refine⟨fun j hj=>?_,fun j h1 h2=>?_,by rw[<- e];exact h.one⟩
 ·unfold Fd;rw[if_neg (by omega)];exact h.ahead j (by omega)
 ·unfold Fd;by_cases hji:j=i
  ·rw[if_pos hji,hji];exact (aCi h3 hz).symm
  ·rw[if_neg hji];exact h.behind j (by omega) h2
theorem IG.take {p:Nat} {zs:List Int} {i:Nat} {o:Nat->Nat} {v:Nat} (hp:Num.Prime p) (h3:3<=p) (h:IG p zs (i+1) o v) (hi:i<zs.length) (hz:zat zs i % (p:Int)≠0) :
  IG p zs i (Fd o i (o i*v % p)) (v*el p (zat zs i) % p):=by
 have e:=Lh p zs i hi;rw[if_neg hz] at e;have hone:=h.one;rw[e] at hone;have hoi:=h.ahead i (by omega);refine⟨fun j hj=>?_,fun j h1 h2=>?_,?_⟩
 ·unfold Fd;rw[if_neg (by omega)];exact h.ahead j (by omega)
 ·unfold Fd;by_cases hji:j=i
  ·rw[if_pos hji,hji];refine Wu hp (Nat.mod_lt _ (by omega)) (Fr p _ h3) (Num.not_dvd_lt (Wt h3 hz) (Yv p _ h3)) ?_ (Zh hp h3 hz);rw[hoi,Nat.mod_mul_mod,show pkI p zs i*v*el p (zat zs i)=v*(pkI p zs i*el p (zat zs i)) from by grind,<- Nat.mul_mod_mod];exact hone
  ·rw[if_neg hji];exact h.behind j (by omega) h2
 ·rw[Nat.mod_mul_mod,show v*el p (zat zs i)*pkI p zs i=v*(pkI p zs i*el p (zat zs i)) from by grind,<- Nat.mul_mod_mod];exact hone
open Go
section
variable {F:Fence} {n:Nat} {P:Program} {ops:Array Oper} {Q:Exit->Act->World->Prop} {md:Region.Mode} {S:World->Prop}
def Ge (ops:Array Oper):Prop:=∀ (j:Nat) (o:Oper),ops[j]?=some o->∀ c,o.op≠.defer c
def Sw (ops:Array Oper):Bool:=ops.all fun o=>match o.op with | .defer _=>false | _=>true
theorem kX (h:Sw ops=true):Ge ops:=by
 intro j o ho c hc;unfold Sw at h;rw[Array.all_eq_true] at h;obtain⟨hj,rfl⟩:=Array.getElem?_eq_some_iff.1 ho;have:=h j hj;rw[hc] at this;cases this
def YieldsR (P:Program) (ops:Array Oper) (S:World->Prop) (o:Oper) (v:Value) (a:Act):Prop:=YieldsIf P ops S o v a/\∀ w,o.about P w a.eval=none
theorem YieldsR.step {i:Nat} {o:Oper} {v:Value} {a:Act} (hnd:Ge ops) (hi:ops[i]?=some o) (hy:YieldsR P ops S o v a)
  {K:Act->World->Prop} {w:World} (hS:S w) (h:K (a.put o.dst v) w):wpOpIn F n P ops Q i K a w:=by
 unfold Go.wpOpIn;simp only[hi];have hab:∀ f,o.about P w a.eval=some f->F.fn f:=fun f hf=>by rw[hy.2 w] at hf;cases hf
 rcases hy.1 with ⟨hw,hv⟩ | ⟨hw,rfl⟩
 ·simp only[hw,if_true,Oper.wpIn,Oper.semAt_eq _ _ _ (hnd i o hi),hv w hS,Oper.uponIn];exact⟨hab,h⟩
 ·simp only[hw,Bool.false_eq_true,if_false];exact⟨hab,h⟩
theorem YieldsR.same {o:Oper} {v:Value} {a a':Act} (hy:YieldsR P ops S o v a) (he:execOp a'.eval o=execOp a.eval o)
  (hw:Region.wanted o (yielded ops a'.tmps)=Region.wanted o (yielded ops a.tmps)) (hb:∀ w,o.about P w a'.eval=o.about P w a.eval):YieldsR P ops S o v a' :=
 ⟨hy.1.of_same he hw,fun w=>by rw[hb w];exact hy.2 w⟩
theorem Sy {j:Nat} {oi oj:Oper} {v:Value} (hnd:Ge ops) (hj:ops[j]?=some oj) (hap:oi.apart ops oj=true)
  (hsi:∀ cs b,oi.op≠.select cs b) (hsj:∀ cs b,oj.op≠.select cs b)
  (hQ:∀ c a w,Q (.panic c) (a.put oi.dst v) w->Q (.panic c) a w) {K:Act->World->Prop} {a:Act} {w:World}
  (hy:YieldsR P ops S oi v a) (h:wpOpIn F n P ops Q j K (a.put oi.dst v) w) :
  wpOpIn F n P ops Q j (fun a' w'=>YieldsR P ops S oi v a'/\K (a'.put oi.dst v) w') a w:=by
 obtain⟨h1,h2,h3⟩:=Oper.apart_spec hap
 have keep:∀ (a:Act),YieldsR P ops S oi v a->∀ u,YieldsR P ops S oi v (a.put oj.dst u):=fun a hy u =>
  hy.same (execOp_put oi hsi a oj.dst u h3) (wanted_put oi a oj.dst u h3) (fun w=>about_put oi w a oj.dst u h3)
 have keepD:∀ d,YieldsR P ops S oi v { a with defers:=d :: a.defers }:=fun d=>hy.same rfl rfl (fun _=>rfl);have hjd:=hnd j oj hj;unfold wpOpIn at *;simp only[hj] at *;rw[wanted_put oj a oi.dst v h1,about_put oj w a oi.dst v h1] at h;split
 ·rename_i hw
  simp only[hw,if_true] at h;unfold Oper.wpIn at *;rw[about_put oj w a oi.dst v h1] at h;refine⟨h.1,?_⟩;have h:=h.2;rw[Oper.semAt_eq _ _ _ hjd,execOp_put oj hsj a oi.dst v h1] at h;rw[Oper.semAt_eq _ _ _ hjd];generalize (execOp a.eval oj).run P w=r at *;cases r with
  | ok x w' =>
   cases x <;> simp only[Oper.uponIn] at h ⊢
   case value u=>exact⟨keep a hy u,by rw[<- Act.put_comm a v u h2];exact h⟩
   case skip=>exact⟨keep a hy _,by rw[<- Act.put_comm a v undef h2];exact h⟩
   case defer d =>
    refine⟨keep _ (keepD d) _,?_⟩;rw[<- Act.put_comm _ v undef h2,<- Act.put_defers];exact h
   case enter f args =>
    refine⟨h.1,CallsIn.mono h.2 fun e w'' he=>?_⟩;cases e with
    | returned u=>exact⟨keep a hy u,by rw[<- Act.put_comm a v u h2];exact he⟩
    | panicked c=>exact hQ _ _ _ he
    | outgrown=>exact he
   case row row args=>exact⟨h.1,RowsIn.mono h.2 fun u w'' he=>⟨keep a hy u,by rw[<- Act.put_comm a v u h2];exact he⟩⟩
   case round l f tmps assign body =>
    refine⟨h.1,RoundIn.mono h.2 fun e w'' he=>?_⟩;cases e with
    | returned u=>exact⟨keep a hy u,by rw[<- Act.put_comm a v u h2];exact he⟩
    | panicked c=>exact hQ _ _ _ he
    | outgrown=>exact he
  | halt x w' =>
   cases x <;> simp only[Oper.uponIn] at h ⊢
   case panic u=>exact hQ _ _ _ h
 ·rename_i hw
  simp only[hw] at h;exact⟨h.1,keep a hy _,by rw[<- Act.put_comm a v undef h2];exact h.2⟩
def Bi (F:Fence) (n:Nat) (P:Program) (md:Region.Mode) (ops:Array Oper) (Q:Exit->Act->World->Prop) (S:World->Prop):Nat->Array Bool->Act->World->Prop
 | 0,listed,a,w=>Region.ready md ops listed=[]/\Q .normal a w
 | fuel+1,listed,a,w =>
  (Region.ready md ops listed=[]->Q .normal a w) /\
  ∀ i∈Region.ready md ops listed,wpOpIn F n P ops Q i (fun a' w'=>S w'/\Bi F n P md ops Q S fuel (listed.setIfInBounds i true) a' w') a w
theorem Gf:∀ (fuel:Nat) (listed:Array Bool) (a:Act) (w:World),Bi F n P md ops Q S fuel listed a w->wpAnyIn F n P md ops Q fuel listed a w
 | 0,_,_,_,h=>h
 | fuel+1,_,_,_,h=>⟨h.1,fun i hi=>wpOpIn_mono (fun a' w' h'=>Gf fuel _ a' w' h'.2) (h.2 i hi)⟩
theorem Qb {i:Nat} {oi:Oper} {v:Value} (hnd:Ge ops) (hi:ops[i]?=some oi) (hsel:∀ (j:Nat) (o:Oper) cs b,ops[j]?=some o->o.op≠.select cs b)
  (hQ:∀ c a w,Q (.panic c) (a.put oi.dst v) w->Q (.panic c) a w) :
  ∀ (fuel:Nat) (listed:Array Bool) (a:Act) (w:World),
   (∀ j oj,ops[j]?=some oj->j≠i->listed.getD j true=false->(∀ e∈oj.after,Region.binds md e=true->e.on≠i)->oi.apart ops oj=true) ->
   i∈Region.ready md ops listed->YieldsR P ops S oi v a->S w ->
   Bi F n P md ops Q S fuel (listed.setIfInBounds i true) (a.put oi.dst v) w->Bi F n P md ops Q S (fuel+1) listed a w:=by
 intro fuel
 induction fuel with
 | zero =>
  intro listed a w _ hr hy hS H;refine⟨fun h=>(by rw[h] at hr;cases hr),fun j hj=>?_⟩;by_cases hji:j=i
  ·subst hji;exact hy.step hnd hi hS ⟨hS,H⟩
  ·have:=ready_mono hj hji;rw[H.1] at this;cases this
 | succ fuel ih =>
  intro listed a w hfree hr hy hS H;refine⟨fun h=>(by rw[h] at hr;cases hr),fun j hj=>?_⟩;by_cases hji:j=i
  ·subst hji;exact hy.step hnd hi hS ⟨hS,H⟩
  ·have h1:=H.2 j (ready_mono hj hji);obtain⟨hjun,oj,hoj,hall⟩:=mem_ready.1 hj
   have hnot:∀ e∈oj.after,Region.binds md e=true->e.on≠i:=fun e he hb heq=>by
    have h1:=hall e he hb;have h0:=(mem_ready.1 hr).1;rw[heq] at h1;rcases Nat.lt_or_ge i listed.size with h' | h'
    ·simp[h'] at h0 h1;rw[h0] at h1;cases h1
    ·simp[Array.getElem?_eq_none h'] at h1
   have h2:=Sy hnd hoj (hfree j oj hoj hji hjun hnot) (fun cs b=>hsel i oi cs b hi) (fun cs b=>hsel j oj cs b hoj) hQ hy h1
   have hfree':∀ k ok,ops[k]?=some ok->k≠i->(listed.setIfInBounds j true).getD k true=false ->
     (∀ e∈ok.after,Region.binds md e=true->e.on≠i)->oi.apart ops ok=true:=fun k ok hk hki hun hno=>by
    refine hfree k ok hk hki ?_ hno;by_cases hjk:j=k
    ·subst hjk;exact hjun
    ·rw[getD_set_ne true hjk] at hun;exact hun
   refine wpOpIn_mono (fun a' w' h3=>⟨h3.2.1,ih (listed.setIfInBounds j true) a' w' hfree' (ready_mono hr (Ne.symm hji)) h3.1 h3.2.1 ?_⟩) h2;rw[Array.setIfInBounds_comm _ _ hji];exact h3.2.2
theorem kU {i:Nat} {oi:Oper} {v:Value} {fuel:Nat} {listed:Array Bool} {a:Act} {w:World} (hnd:Ge ops) (hi:ops[i]?=some oi)
  (hs:Region.noSelect ops=true) (hf:Region.free md ops listed i=true) (hr:(Region.ready md ops listed).contains i=true)
  (hQ:∀ c a w,Q (.panic c) (a.put oi.dst v) w->Q (.panic c) a w) (hy:YieldsR P ops S oi v a) (hS:S w)
  (h:Bi F n P md ops Q S fuel (listed.setIfInBounds i true) (a.put oi.dst v) w):Bi F n P md ops Q S (fuel+1) listed a w :=
 Qb hnd hi (Region.noSelect_spec hs) hQ fuel listed a w (Region.free_spec hi hf) (by simpa using hr) hy hS h
theorem xY {i:Nat} {fuel:Nat} {listed:Array Bool} {a:Act} {w:World} (hr:Region.ready md ops listed=[i])
  (h:wpOpIn F n P ops Q i (fun a' w'=>S w'/\Bi F n P md ops Q S fuel (listed.setIfInBounds i true) a' w') a w):Bi F n P md ops Q S (fuel+1) listed a w :=
 ⟨(fun h0=>by rw[hr] at h0;cases h0),fun j hj=>by rw[hr] at hj;obtain rfl:=List.mem_singleton.1 hj;exact h⟩
theorem It {listed:Array Bool} {a:Act} {w:World} (hr:Region.ready md ops listed=[]) (h:Q .normal a w) :
  ∀ fuel,Bi F n P md ops Q S fuel listed a w
 | 0=>⟨hr,h⟩
 | _+1=>⟨fun _=>h,by rw[hr];simp⟩
theorem Ew {id:Nat} {a:Act} {w:World} (hm:P.follows .mixedOrders=true)
  (h:Bi F n P .any ops Q S ops.size (Array.replicate ops.size false) a w.drew):(Code.region id ops true).wpIn F n P Q a w :=
 wpIn_region_any hm (Gf _ _ _ _ h)
end
theorem aEc:(Tryz.prog.info? 3).map (fun i=>(i.zero,i.size,i.bytes))=some (some (.int .i64 0),1,8):=by kernel_rfl
structure Out (N n p:Nat) (o:Nat->Nat) (W:World):Prop where
 cells:∀ j,j<n->W.cell? ⟨N+1,j,none⟩=some (.int .i64 (o j:Int))
 soft:∀ j,j<n->W.frozen? ⟨N+1,j,none⟩=false
 lt:∀ j,j<n->o j<p
structure Boxes (N n b:Nat) (W:World):Prop where
 fbox:W.cell? ⟨N,0,none⟩=some (.pointer (some ⟨b,0,none⟩))
 obox:W.cell? ⟨N+2,0,none⟩=some (.slice (some ⟨N+1,0,none⟩) n n)
theorem Out.set {N n p:Nat} {o:Nat->Nat} {W:World} (h:Out N n p o W) {i x:Nat} (hi:i<n) (hx:x<p):Out N n p (Fd o i x) (W.setCell ⟨N+1,i,none⟩ (.int .i64 (x:Int))):=by
 refine⟨fun j hj=>?_,fun j hj=>by rw[World.frozen?_setCell];exact h.soft j hj,fun j hj=>?_⟩
 ·unfold Fd;by_cases hji:j=i
  ·subst hji;rw[if_pos rfl];exact World.cell?_setCell_same _ _ _ (h.cells j hj)
  ·rw[if_neg hji,World.cell?_setCell_other _ _ _ _ (by intro e;cases e;exact hji rfl)];exact h.cells j hj
 ·unfold Fd;by_cases hji:j=i
  ·rw[if_pos hji];exact hx
  ·rw[if_neg hji];exact h.lt j hj
theorem yY (W:World) (a c:Addr) (v:Value) (h:a.block≠c.block):(W.setCell a v).cell? c=W.cell? c:=World.cell?_setCell_other _ _ _ _ (fun e=>h (by rw[e]))
theorem Out.far {N n p:Nat} {o:Nat->Nat} {W:World} (h:Out N n p o W) {a:Addr} (ha:a.block≠N+1) (v:Value):Out N n p o (W.setCell a v) :=
 ⟨fun j hj=>by rw[yY _ _ _ _ ha];exact h.cells j hj,fun j hj=>by rw[World.frozen?_setCell];exact h.soft j hj,h.lt⟩
theorem Boxes.far {N n b:Nat} {W:World} (h:Boxes N n b W) {a:Addr} (h1:a.block≠N) (h2:a.block≠N+2) (v:Value):Boxes N n b (W.setCell a v) :=
 ⟨by rw[yY _ _ _ _ h1];exact h.fbox,by rw[yY _ _ _ _ h2];exact h.obox⟩
theorem Out.drew {N n p:Nat} {o:Nat->Nat} {W:World} (h:Out N n p o W):Out N n p o W.drew:=⟨h.cells,h.soft,h.lt⟩
theorem Boxes.drew {N n b:Nat} {W:World} (h:Boxes N n b W):Boxes N n b W.drew:=⟨h.fbox,h.obox⟩
theorem Out.alloc {N n p:Nat} {o:Nat->Nat} {W:World} (h:Out N n p o W) (hN:N+1<W.heap.size) (q:Obj):Out N n p o (W.alloc q) :=
 ⟨fun j hj=>by rw[World.cell?_alloc_lt _ _ ⟨N+1,j,none⟩ hN];exact h.cells j hj,fun j hj=>by rw[World.frozen?_alloc_old _ _ ⟨N+1,j,none⟩ (by simp;omega)];exact h.soft j hj,h.lt⟩
theorem Boxes.alloc {N n b:Nat} {W:World} (h:Boxes N n b W) (hN:N+2<W.heap.size) (q:Obj):Boxes N n b (W.alloc q) :=
 ⟨by rw[World.cell?_alloc_lt _ _ ⟨N,0,none⟩ (by simp;omega)];exact h.fbox,by rw[World.cell?_alloc_lt _ _ ⟨N+2,0,none⟩ hN];exact h.obox⟩
theorem Out.kept {N n p:Nat} {o:Nat->Nat} {W W':World} {row:Option Nat} (h:Out N n p o W) (hg:W.grownBy W' row) (hr:∀ r,row=some r->∃ q:Obj,W.heap[r]?=some q/\q.isCells=false):Out N n p o W' :=
 ⟨fun j hj=>cell_kept (h.cells j hj) hg hr,fun j hj=>(frozen_kept (h.cells j hj) hg hr).trans (h.soft j hj),h.lt⟩
theorem Boxes.kept {N n b:Nat} {W W':World} {row:Option Nat} (h:Boxes N n b W) (hg:W.grownBy W' row) (hr:∀ r,row=some r->∃ q:Obj,W.heap[r]?=some q/\q.isCells=false):Boxes N n b W' :=
 ⟨cell_kept h.fbox hg hr,cell_kept h.obox hg hr⟩
theorem aEd (p s:Nat) (h:s<p):el p (s:Int)=s:=by
 unfold el;rw[Int.emod_eq_of_lt (by omega) (by omega)];simp
def mmn (p x y:Nat):Nat:=x*y % p
theorem aCj (p x y:Nat):(x:Int)*(y:Int) % (p:Int)=(mmn p x y:Int):=by unfold mmn;simp
theorem aCk (p a:Nat) (x:Int) (h3:3<=p):(a:Int)*x % (p:Int)=((a*el p x % p:Nat):Int):=by
 rw[show ((a*el p x % p:Nat):Int)=(a:Int)*((el p x:Nat):Int) % (p:Int) from by simp,Jr p x h3,Int.mul_emod (a:Int) (x % (p:Int)) p,Int.emod_emod_of_dvd x (Int.dvd_refl _),<- Int.mul_emod]
theorem aCl (p b cap:Nat) (a:Option Addr) (zs:List Int) (w:World) (hpr:Num.Prime p) (h3:3<=p) (hm:p<=2147483647) (hp:w.cell? ⟨b,0,none⟩=some (.int .i64 p))
  (hlen:zs.length*8<=140737488355328) (hzs:∀ j,j<zs.length->-9223372036854775808<=zat zs j/\zat zs j<=9223372036854775807) (hrow:RowB w.heap.size w a zs) :
  Calls Tryz.prog 149 #[.pointer (some ⟨b,0,none⟩),.slice a zs.length cap] w fun e w'=>∃ o:Nat->Nat,e=.returned (.slice (some ⟨w.heap.size+1,0,none⟩) zs.length zs.length) /\
   (∀ j,j<zs.length->o j=yX p (zat zs j))/\Out w.heap.size zs.length p o w'/\Below w.heap.size w w':=by
 have hmk:=fun n h1 h2 w=>run_make_row' (P:=Tryz.prog) 25 3 (.int .i64 0) 8 Tryz.underlying25 aEc rfl .i64 .i64 n h1 h2 w;have hmk2:=hmk zs.length (by omega) (by omega);have HZ:=hid hzs;have HR:=hid hrow;have HP:=hid hpr
 have hb:b<w.heap.size:=by
  rcases Nat.lt_or_ge b w.heap.size with g | g
  ·exact g
  ·simp[World.cell?,Array.getElem?_eq_none g] at hp
 clear hmk hzs hrow hpr;refine (callsIn_wide (n:=8)).1 ?_;refine callsIn_of_wp_marks Tryz.func149 rfl trivial ?_ rfl;simp only[Tryz.ntmps149,List.size_toArray,List.length_cons,List.length_nil,Nat.reduceAdd,Nat.reduceSub,Array.replicate_succ,Array.replicate_zero,List.push_toArray,List.append_toArray,List.nil_append,List.cons_append];have hmx:Tryz.prog.follows .mixedOrders=true:=by kernel_rfl
 gi_wp2
 gi_loopw [6,17] (fun pv iv wr=>∃ (k:Nat) (o:Nat->Nat),k<=zs.length/\iv=.int .i64 k/\pv=.int .i64 (pkI p zs k)/\Hid (Out w.heap.size zs.length p o wr)/\Hid (Boxes w.heap.size zs.length b wr)/\Hid (∀ j,j<k->o j=pkI p zs j)/\Hid (Below w.heap.size w wr)/\wr.heap.size=w.heap.size+3)
  (fun _ iv _=>zs.length-(intOf iv).toNat)
 case atStart =>
  refine⟨0,fun _=>0,Nat.zero_le _,rfl,rfl,⟨fun j hj=>?_,fun j hj=>?_,fun j _=>by omega⟩,⟨?_,?_⟩,fun j hj=>by omega,?_,by simp⟩
  ·rw[World.cell?_alloc_lt _ _ ⟨w.heap.size+1,j,none⟩ (by simp),World.cell?_alloc_at _ _ _ _ (by simp)];simp[madeCells,hj,Nat.mod_one]
  ·rw[World.frozen?_alloc_old _ _ ⟨w.heap.size+1,j,none⟩ (by simp)];simp
  ·rw[World.cell?_alloc_lt _ _ ⟨w.heap.size,0,none⟩ (by simp;omega),World.cell?_alloc_lt _ _ ⟨w.heap.size,0,none⟩ (by simp),World.cell?_alloc_at _ _ _ _ rfl];rfl
  ·rw[World.cell?_alloc_at _ _ _ _ (by simp)];rfl
  ·exact (((Below.refl _ _).alloc (Nat.le_refl _) _).alloc (by simp) _).alloc (by simp;omega) _
 case round =>
  obtain⟨k,o,hk,rfl,rfl,hout,hbox,hoj,hbel,hsz⟩:=hrel;by_cases hlt:k<zs.length
  ·have hlt2:(k:Int)<(zs.length:Int):=by omega
   obtain⟨bl,ol,rfl,hbl,hcl⟩:=HR.out k hlt;have hcl2:=(hbel.out.cell (p:=⟨bl,ol+k,none⟩) hbl).trans hcl;have hob:=hbox.out.obox;have hfb:=hbox.out.fbox;have hok:=hout.out.cells k hlt;have hos:=hout.out.soft k hlt;have hpc:=(hbel.out.cell (p:=⟨b,0,none⟩) hb).trans hp;obtain⟨hx1,hx2⟩:=HZ.out k hlt;have HS:=hid (Lh p zs k hlt);have hpl:=aCh p HP.out h3 zs k;generalize zat zs k=x at *;clear hcl;have hpc2:∀ v,(wr.setCell ⟨w.heap.size+1,k,none⟩ v).cell? ⟨b,0,none⟩=some (.int .i64 p):=fun v=>by rw[yY _ _ _ _ (by show w.heap.size+1≠b;omega)];exact hpc
   have HPC:=hid hpc2;have HO2:=hid (hout.out.set hlt hpl);have HB2:=hid (hbox.out.far (a:=⟨w.heap.size+1,k,none⟩) (by simp) (by simp) (.int .i64 (pkI p zs k:Int)));have HL2:=hid (hbel.out.setCell (p:=⟨w.heap.size+1,k,none⟩) (by simp) (.int .i64 (pkI p zs k:Int)))
   have HJ2:Hid (∀ j,j<k+1->Fd o k (pkI p zs k) j=pkI p zs j):=fun j hj=>by
    unfold Fd;by_cases hjk:j=k
    ·rw[if_pos hjk,hjk]
    ·rw[if_neg hjk];exact hoj.out j (by omega)
   clear hpc2 hpc
   gi_wp2_with fail
   refine⟨trivial,(callsIn_wide.2 (zZ p b x _ h3 hm (HPC.out _) hx1 hx2)).mono ?_⟩;rintro e w2 ⟨rfl,rfl⟩;by_cases hz:x % (p:Int)=0
   ·have hzb:(x % (p:Int) != 0)=false:=by rw[hz];rfl
    rw[if_pos hz] at HS;clear hz
    gi_wp2_with fail
    go_roundw
    case rel=>exact⟨k+1,_,by omega,by go_num,by rw[HS.out],HO2,HB2,HJ2,HL2,by simp[World.setCell];exact hsz⟩
    case measure=>simp[intOf];omega
   ·have hzb:(x % (p:Int) != 0)=true:=by rw[bne_iff_ne];exact hz
    rw[if_neg hz] at HS;clear hz
    gi_wp2_with fail
    refine⟨trivial,(callsIn_wide.2 (kK p b (pkI p zs k:Int) x _ h3 hm (HPC.out _) (by omega) (by omega) hx1 hx2)).mono ?_⟩;rintro e w2 ⟨rfl,rfl⟩
    gi_wp2_with fail
    go_roundw
    case rel=>exact⟨k+1,_,by omega,by go_num,by rw[HS.out,aCk p _ x h3],HO2,HB2,HJ2,HL2,by simp[World.setCell];exact hsz⟩
    case measure=>simp[intOf];omega
  ·have hlt2:¬ (k:Int)<(zs.length:Int):=by omega
   have hkn:k=zs.length:=by omega
   subst hkn;have hfb:=hbox.out.fbox;have hob:=hbox.out.obox;have hpl:=aCh p HP.out h3 zs zs.length;have HPN:=hid (aFq p HP.out h3 zs zs.length);have hpc:=(hbel.out.cell (p:=⟨b,0,none⟩) hb).trans hp;have HPC:=hid hpc;clear hpc;have hv0:=Fr p (pkI p zs zs.length:Int) h3;have HIN:=hid (Pi p b (pkI p zs zs.length:Int) wr h3 hm HPC.out (by omega) (by omega));rw[Pk p _ HP.out h3] at HIN
   have HONE:Hid (yX p (pkI p zs zs.length:Int)*pkI p zs zs.length % p=1):=by have hne:((pkI p zs zs.length:Nat):Int) % (p:Int)≠0:=fun h=>HPN.out (Int.ofNat_dvd.1 (Int.dvd_of_emod_eq_zero h));have:=Zh HP.out h3 hne;rw[aEd p _ hpl] at this;exact this
   generalize yX p (pkI p zs zs.length:Int)=v0 at *
   gi_wp2_with fail
   refine⟨trivial,(callsIn_wide.2 (HIN.out)).mono ?_⟩;rintro e w2 ⟨rfl,rfl⟩;clear HIN
   gi_wp2_with fail
   refine⟨trivial,(aEb Fence.wide _ trivial rfl _ _ _ _).mono ?_⟩;rintro e w3 ⟨rfl,rfl⟩
   gi_wp2_with fail
   have HO0:=hid ((hout.out.alloc (by omega) (.cells #[.int .i64 (v0:Int)] 3)).alloc (by simp;omega) (.cells #[.slice a zs.length cap] 25));have HX0:=hid ((hbox.out.alloc (by omega) (.cells #[.int .i64 (v0:Int)] 3)).alloc (by simp;omega) (.cells #[.slice a zs.length cap] 25));have HW0:=hid ((hbel.out.alloc (by omega) (.cells #[.int .i64 (v0:Int)] 3)).alloc (by simp;omega) (.cells #[.slice a zs.length cap] 25))
   have HV0:Hid (((w2.alloc (.cells #[.int .i64 (v0:Int)] 3)).alloc (.cells #[.slice a zs.length cap] 25)).cell? ⟨w.heap.size+3,0,none⟩=some (.int .i64 (v0:Int))):=by unfold Hid;rw[World.cell?_alloc_lt _ _ ⟨w.heap.size+3,0,none⟩ (by simp;omega),World.cell?_alloc_at _ _ _ _ (by omega)];rfl
   have HF0:Hid (((w2.alloc (.cells #[.int .i64 (v0:Int)] 3)).alloc (.cells #[.slice a zs.length cap] 25)).frozen? ⟨w.heap.size+3,0,none⟩=false):=by unfold Hid;rw[World.frozen?_alloc_old _ _ ⟨w.heap.size+3,0,none⟩ (by simp;omega),<- hsz];simp
   have HS0:Hid (((w2.alloc (.cells #[.int .i64 (v0:Int)] 3)).alloc (.cells #[.slice a zs.length cap] 25)).cell? ⟨w.heap.size+3+1,0,none⟩=some (.slice a zs.length cap)):=by unfold Hid;rw[World.cell?_alloc_at _ _ _ _ (by simp;omega)];rfl
   have HR0:=hid (RowB.below HW0.out HR.out);have HZ0:Hid (((w2.alloc (.cells #[.int .i64 (v0:Int)] 3)).alloc (.cells #[.slice a zs.length cap] 25)).heap.size=w.heap.size+5):=by unfold Hid;simp;omega
   generalize (w2.alloc (.cells #[.int .i64 (v0:Int)] 3)).alloc (.cells #[.slice a zs.length cap] 25)=W0 at *
   refine wpIn_rangeFunc_ownG rfl (by omega) (gf:=189) (lb:=#[.pointer (some ⟨w.heap.size+3+1,0,none⟩)]) rfl trivial (xZ Tryz.func189 (by kernel_rfl) rfl)
    (Ws Fence.wide 7 trivial rfl (by omega) (w.heap.size+3+1) w.heap.size cap a zs (by omega) W0 (by rw[HZ0.out];omega) HS0.out (by rw[HZ0.out];omega) HR0.out)
    (fun h k=>h.trans k)
    (fun W l q q' hl h h1 h2=>⟨belowK_b (w:=W0) (by rw[HZ0.out];omega) W l q q' hl h h1 h2,World.cell?_of_block (World.putObj_heap_other (by rw[HZ0.out] at hl;simp;omega))⟩)
    (Below.refl _ _) (fun _=>rfl)
    (fun pre W=>(∃ o v,Out w.heap.size zs.length p o W/\Boxes w.heap.size zs.length b W/\v<p/\W.cell? ⟨w.heap.size+3,0,none⟩=some (.int .i64 (v:Int))/\W.frozen? ⟨w.heap.size+3,0,none⟩=false/\(∀ k,k<=zs.length->Gd zs pre k->IG p zs (zs.length-k) o v))/\Below w.heap.size w W)
    (fun _ _ _=>False)
    (OwnFrom.and (Own.from (fun s A B row hs hg hr=>by
     obtain⟨o,v,h1,h2,h4,h5,h6,h7⟩:=hs
     exact⟨o,v,h1.kept hg hr,h2.kept hg hr,h4,cell_kept h5 hg hr,(frozen_kept h5 hg hr).trans h6,h7⟩) _) (ownFrom_below (Nat.le_refl _) (by rw[HZ0.out];omega)))
    (fun _ _ _ _ _ hs _ _=>hs)
    ⟨⟨o,v0,HO0.out,HX0.out,hv0,HV0.out,HF0.out,fun k hk hc=>by
     have hk0:=Cc hc;simp at hk0;subst hk0
     exact⟨fun j hj=>hoj.out j (by omega),fun j h1 h2=>by omega,HONE.out⟩⟩,HW0.out⟩
    (fun x=>{ tmps:=#[.pointer (some ⟨b,0,none⟩),.slice a zs.length cap,.pointer (some ⟨w.heap.size,0,none⟩),undef,.slice none 0 0,.pointer (some ⟨w.heap.size+1+1,0,none⟩),.int .i64 (pkI p zs zs.length:Int),u7,u8,.pointer (some ⟨w.heap.size+3,0,none⟩),.int .i64 (x.val:Int),.int .i64 (zat zs x.val),.slice a zs.length cap,.int .i64 zs.length,.slice (some ⟨w.heap.size+1,0,none⟩) zs.length zs.length,.slice a zs.length cap,.int .i64 zs.length,.int .i64 zs.length,.bool false,u19,u20,u21,u22,u23,u24,u25,u26,u27,u28,u29,u30,u31,u32,u33,u34,.pointer (some ⟨b,0,none⟩),.int .i64 (pkI p zs zs.length:Int),.int .i64 (v0:Int),.slice a zs.length cap,.func (.func 189) #[] #[.pointer (some ⟨w.heap.size+3+1,0,none⟩)],.int .i64 (x.val:Int),.int .i64 (zat zs x.val),undef,undef,undef,undef,undef,undef,undef,undef,undef,undef,undef,undef,undef,undef,undef,undef,undef,undef,undef,undef,undef,undef],defers:=[] })
    ?assign ?body ?done ?stop
   case assign =>
    intro l x W K hK
    gi_wp2
    exact hK
   case body =>
    rintro l pre x W ⟨⟨o',v,hO,hB,hv,hvc,hvf,hig⟩,hbl⟩ hpl2;have hxl:=x.isLt;have hob2:=hB.obox;have hfb2:=hB.fbox;have hok:=hO.cells x.val hxl;have hos:=hO.soft x.val hxl;have hol:=hO.lt x.val hxl;have hpc:=(hbl.cell (p:=⟨b,0,none⟩) hb).trans hp;have HPC2:=hid hpc;obtain⟨hz1,hz2⟩:=HZ.out x.val hxl;have HOUT:=hid hO;have HBOX:=hid hB;have HBL:=hid hbl;have HIG:=hid hig;clear hpc hO hB hbl hig
    have HSKIP:Hid (zat zs x.val % (p:Int)=0->∀ k,k<=zs.length->Gd zs (pre++[x]) k->IG p zs (zs.length-k) (Fd o' x.val 0) v):=by
     intro hz k hk hc
     obtain⟨k',rfl⟩:∃ k',k=k'+1:=by
      cases k with
      | zero=>have:=Cc hc;simp at this
      | succ k'=>exact⟨k',rfl⟩
     obtain⟨hc1,hc2⟩:=Sv hc;have hg:=HIG.out k' (by omega) hc1;rw[show zs.length-k'=x.val+1 from by omega] at hg;rw[show zs.length-(k'+1)=x.val from by omega];exact hg.skip h3 hxl hz
    have HTAKE:Hid (zat zs x.val % (p:Int)≠0->∀ k,k<=zs.length->Gd zs (pre++[x]) k->IG p zs (zs.length-k) (Fd o' x.val (o' x.val*v % p)) (v*el p (zat zs x.val) % p)):=by
     intro hz k hk hc
     obtain⟨k',rfl⟩:∃ k',k=k'+1:=by
      cases k with
      | zero=>have:=Cc hc;simp at this
      | succ k'=>exact⟨k',rfl⟩
     obtain⟨hc1,hc2⟩:=Sv hc;have hg:=HIG.out k' (by omega) hc1;rw[show zs.length-k'=x.val+1 from by omega] at hg;rw[show zs.length-(k'+1)=x.val from by omega];exact hg.take HP.out h3 hxl hz
    generalize zat zs x.val=z at *;generalize hi:x.val=i at *;clear hi
    gi_wp2_with fail
    refine⟨trivial,(CallsIn.inRound l (callsIn_wide.2 (zZ p b z W h3 hm HPC2.out hz1 hz2))).mono ?_⟩;rintro e w5 ⟨rfl,rfl⟩;by_cases hz:z % (p:Int)=0
    ·have hzb:(z % (p:Int)==0)=true:=by rw[hz];rfl
     have HG:=hid (HSKIP.out hz);clear hz HSKIP HTAKE
     gi_wp2_with fail
     exact⟨(KeepsOthers.setCell _ _ _).from _,⟨(Below.refl _ _).setCell (p:=⟨w.heap.size+1,i,none⟩) (by simp) _,yY _ _ _ _ (by simp)⟩,
      ⟨Fd o' i 0,v,HOUT.out.set hxl (by omega),HBOX.out.far (by simp) (by simp) _,hv,(yY _ _ _ _ (by simp)).trans hvc,by rw[World.frozen?_setCell];exact hvf,HG.out⟩,HBL.out.setCell (p:=⟨w.heap.size+1,i,none⟩) (by simp) _⟩
    ·have hzb:(z % (p:Int)==0)=false:=by rw[beq_eq_false_iff_ne];exact hz
     have HG:=hid (HTAKE.out hz);clear hz HSKIP HTAKE
     have HM1:Hid (∀ W:World,W.cell? ⟨b,0,none⟩=some (.int .i64 p)->Calls Tryz.prog 78 #[.pointer (some ⟨b,0,none⟩),.int .i64 (o' i:Int),.int .i64 (v:Int)] W fun e w'=>e=.returned (.int .i64 (mmn p (o' i) v:Int))/\w'=W):=by intro W hW;have:=kK p b (o' i:Int) (v:Int) W h3 hm hW (by omega) (by omega) (by omega) (by omega);rw[aCj] at this;exact this
     have HM2:Hid (∀ W:World,W.cell? ⟨b,0,none⟩=some (.int .i64 p)->Calls Tryz.prog 78 #[.pointer (some ⟨b,0,none⟩),.int .i64 (v:Int),.int .i64 z] W fun e w'=>e=.returned (.int .i64 (mmn p v (el p z):Int))/\w'=W):=by intro W hW;have:=kK p b (v:Int) z W h3 hm hW (by omega) (by omega) hz1 hz2;rw[aCk p v z h3] at this;exact this
     have HB3:Hid (∀ u,(w5.setCell ⟨w.heap.size+1,i,none⟩ u).cell? ⟨b,0,none⟩=some (.int .i64 p)):=fun u=>(yY _ _ _ _ (by show w.heap.size+1≠b;omega)).trans HPC2.out
     gi_wp2_with fail
     gi_cut [] from 49 (fun wc=>wc=(w5.setCell ⟨w.heap.size+1,i,none⟩ (.int .i64 (mmn p (o' i) v:Int))).drew)
     case first =>
      have hS0:w5.drew.cell? ⟨w.heap.size+1+1,0,none⟩=some (.slice (some ⟨w.heap.size+1,0,none⟩) zs.length zs.length)/\w5.drew.cell? ⟨w.heap.size,0,none⟩=some (.pointer (some ⟨b,0,none⟩))/\w5.drew.cell? ⟨w.heap.size+3,0,none⟩=some (.int .i64 (v:Int)):=⟨hob2,hfb2,hvc⟩
      refine Ew (S:=fun W=>W.cell? ⟨w.heap.size+1+1,0,none⟩=some (.slice (some ⟨w.heap.size+1,0,none⟩) zs.length zs.length)/\W.cell? ⟨w.heap.size,0,none⟩=some (.pointer (some ⟨b,0,none⟩))/\W.cell? ⟨w.heap.size+3,0,none⟩=some (.int .i64 (v:Int))) hmx ?_;show Bi _ _ _ _ _ _ _ 11 (Array.replicate 11 false) _ _;refine kU (i:=1) (v:=.int .i64 (i:Int)) (kX (by kernel_rfl)) rfl (by kernel_rfl) (by kernel_rfl) (by kernel_rfl) (fun _ _ _ h=>h) ⟨Or.inl ⟨by rfl,fun W hS=>?_⟩,fun W=>?_⟩ hS0 ?_
      ·obtain⟨s1,s2,s3⟩:=hS;go_simp
      ·first | rfl | go_simp
      refine kU (i:=4) (v:=.int .i64 (i:Int)) (kX (by kernel_rfl)) rfl (by kernel_rfl) (by kernel_rfl) (by kernel_rfl) (fun _ _ _ h=>h) ⟨Or.inl ⟨by rfl,fun W hS=>?_⟩,fun W=>?_⟩ hS0 ?_
      ·obtain⟨s1,s2,s3⟩:=hS;go_simp
      ·first | rfl | go_simp
      refine kU (i:=0) (v:=.slice (some ⟨w.heap.size+1,0,none⟩) zs.length zs.length) (kX (by kernel_rfl)) rfl (by kernel_rfl) (by kernel_rfl) (by kernel_rfl) (fun _ _ _ h=>h) ⟨Or.inl ⟨by rfl,fun W hS=>?_⟩,fun W=>?_⟩ hS0 ?_
      ·obtain⟨s1,s2,s3⟩:=hS;go_simp
      ·first | rfl | go_simp
      refine kU (i:=3) (v:=.slice (some ⟨w.heap.size+1,0,none⟩) zs.length zs.length) (kX (by kernel_rfl)) rfl (by kernel_rfl) (by kernel_rfl) (by kernel_rfl) (fun _ _ _ h=>h) ⟨Or.inl ⟨by rfl,fun W hS=>?_⟩,fun W=>?_⟩ hS0 ?_
      ·obtain⟨s1,s2,s3⟩:=hS;go_simp
      ·first | rfl | go_simp
      refine kU (i:=2) (v:=.pointer (some ⟨b,0,none⟩)) (kX (by kernel_rfl)) rfl (by kernel_rfl) (by kernel_rfl) (by kernel_rfl) (fun _ _ _ h=>h) ⟨Or.inl ⟨by rfl,fun W hS=>?_⟩,fun W=>?_⟩ hS0 ?_
      ·obtain⟨s1,s2,s3⟩:=hS;go_simp
      ·first | rfl | go_simp
      refine kU (i:=7) (v:=.int .i64 (v:Int)) (kX (by kernel_rfl)) rfl (by kernel_rfl) (by kernel_rfl) (by kernel_rfl) (fun _ _ _ h=>h) ⟨Or.inl ⟨by rfl,fun W hS=>?_⟩,fun W=>?_⟩ hS0 ?_
      ·obtain⟨s1,s2,s3⟩:=hS;go_simp
      ·first | rfl | go_simp
      refine kU (i:=5) (v:=.pointer (some ⟨w.heap.size+1,i,none⟩)) (kX (by kernel_rfl)) rfl (by kernel_rfl) (by kernel_rfl) (by kernel_rfl) (fun _ _ _ h=>h) ⟨Or.inl ⟨by rfl,fun W hS=>?_⟩,fun W=>?_⟩ hS0 ?_
      ·obtain⟨s1,s2,s3⟩:=hS;go_simp
      ·first | rfl | go_simp
      refine xY (i:=6) (by kernel_rfl) ?_;refine YieldsR.step (S:=fun W=>W.cell? ⟨w.heap.size+1,i,none⟩=some (.int .i64 (o' i:Int))) (v:=.int .i64 (o' i:Int)) (kX (by kernel_rfl)) rfl ⟨Or.inl ⟨by rfl,fun W hS=>?_⟩,fun W=>?_⟩ hok ⟨hS0,?_⟩
      ·go_simp
      ·first | rfl | go_simp
      refine xY (i:=8) (by kernel_rfl) ?_;refine wpOpIn_step rfl (fun K' hK'=>?_);rw[if_pos (by rfl)];go_simp;refine⟨trivial,(CallsIn.inRound l (callsIn_wide.2 (HM1.out _ (by exact HPC2.out)))).mono ?_⟩;rintro e w6 ⟨rfl,rfl⟩;refine hK' _ _ ⟨hS0,?_⟩;clear hK' K';refine xY (i:=9) (by kernel_rfl) ?_;refine YieldsR.step (S:=fun _=>True) (v:=.pointer (some ⟨w.heap.size+1,i,none⟩)) (kX (by kernel_rfl)) rfl ⟨Or.inl ⟨by rfl,fun W hS=>?_⟩,fun W=>?_⟩ trivial ⟨hS0,?_⟩
      ·go_simp
      ·first | rfl | go_simp
      refine xY (i:=10) (by kernel_rfl) ?_;refine wpOpIn_step rfl (fun K' hK'=>?_);rw[if_pos (by rfl)];go_simp;refine hK' _ _ ⟨⟨(yY _ _ _ _ (by simp)).trans hob2,(yY _ _ _ _ (by simp)).trans hfb2,(yY _ _ _ _ (by simp)).trans hvc⟩,It (by kernel_rfl) ?_ _⟩;clear hK' K'
      gi_wp2_with fail
      gi_meet
      case rel=>rfl
     case rest =>
      subst hcut
      gi_wp2_with fail
      refine⟨trivial,(CallsIn.inRound l (callsIn_wide.2 (HM2.out _ (by exact HB3.out _)))).mono ?_⟩;rintro e w7 ⟨rfl,rfl⟩
      gi_wp2_with fail
      have l1:mmn p (o' i) v<p:=Nat.mod_lt _ (by omega);have l2:mmn p v (el p z)<p:=Nat.mod_lt _ (by omega)
      exact⟨((KeepsOthers.setCell _ _ _).trans ((KeepsOthers.setCell _ _ _).trans (KeepsOthers.drew _))).from _,
       ⟨(((Below.refl _ _).setCell (p:=⟨w.heap.size+1,i,none⟩) (by simp) _).setCell (p:=⟨w.heap.size+3,0,none⟩) (by simp) _).drew,(yY _ _ _ _ (by simp)).trans (yY _ _ _ _ (by simp))⟩,
       ⟨Fd o' i (mmn p (o' i) v),mmn p v (el p z),((HOUT.out.set hxl l1).far (a:=⟨w.heap.size+3,0,none⟩) (by simp) _).drew,((HBOX.out.far (a:=⟨w.heap.size+1,i,none⟩) (by simp) (by simp) _).far (a:=⟨w.heap.size+3,0,none⟩) (by simp) (by simp) _).drew,l2,World.cell?_setCell_same _ _ _ ((yY _ _ _ _ (by simp)).trans hvc),by rw[World.frozen?_drew,World.frozen?_setCell,World.frozen?_setCell];exact hvf,HG.out⟩,
       ((HBL.out.setCell (p:=⟨w.heap.size+1,i,none⟩) (by simp) _).setCell (p:=⟨w.heap.size+3,0,none⟩) (by simp) _).drew⟩
   case done =>
    rintro D ys W hD hys ⟨⟨o',v,hO,hB,hv,hvc,hvf,hig⟩,hbl⟩ hK;have hg:=hig zs.length (Nat.le_refl _) hys;rw[Nat.sub_self] at hg;have hob2:=hB.obox;have HOUT:=hid hO;have HBL:=hid hbl;have HG:=hid hg;clear hO hB hbl hig hg hys
    gi_wp2
    refine⟨by simp,.inl ⟨_,_,rfl,run_takeDeferred hK,?_⟩⟩;refine⟨_,results_tmp rfl _ _ _,o',rfl,fun j hj=>HG.out.behind j (Nat.zero_le _) hj,HOUT.out.kept (grownBy_putObj' W D _) (fun r e=>by cases e;exact⟨_,hK,rfl⟩),HBL.out.trans (belowK_b (w:=w) (Nat.le_refl _) W D _ _ (by rw[HZ0.out] at hD;omega) hK rfl rfl)⟩
   case stop =>
    rintro D c pre W _ _ h _;exact h.elim
def fc (p:Nat) (xs ys:List Int) (i:Nat):Int:=zat ys i*(yX p (evz p (Et p xs i xs.length) (zat xs i)):Int) % (p:Int)
def FS (p:Nat) (xs ys:List Int):Nat->Nat->Int
 | 0=>Pol.zero
 | i+1=>Pol.add (FS p xs ys i) (Pol.sc (fc p xs ys i) (Pol.vsk (zat xs) i xs.length))
def fsm (p:Nat) (xs ys:List Int) (i:Nat):Nat->Int:=fun j=>FS p xs ys i j % (p:Int)
theorem Li (p:Nat) (xs ys:List Int) (i j:Nat) (h3:3<=p):0<=fsm p xs ys i j/\fsm p xs ys i j<p:=qQ _ p h3
theorem aCm (p:Nat) (xs ys:List Int) (j:Nat):fsm p xs ys 0 j=0:=by simp[fsm,FS,Pol.zero]
theorem aCn {p:Nat} (h3:3<=p) (xs ys:List Int) (i:Nat) (hi:i<xs.length) (j:Nat) (hj:j<xs.length):awf p (fsm p xs ys i) (Aw p xs) (zat xs i) (fc p xs ys i) xs.length xs.length j=fsm p xs ys (i+1) j:=by
 unfold awf;rw[if_pos (by omega),aFn h3 xs i hi (xs.length-j) (by omega),show xs.length-(xs.length-j)=j from by omega];unfold fsm;rw[FS];simp only[Pol.add,Pol.sc];rw[Int.mul_emod,Int.emod_emod_of_dvd _ (Int.dvd_refl _),<- Int.mul_emod,<- Int.add_emod,Int.mul_comm]
def Dt (p:Nat) (xs ys:List Int):List Int:=Pol.mk p (FS p xs ys xs.length) xs.length
theorem aEe {a:Option Addr} {n m c:Nat} (h:n=m):Ending.returned (.tuple #[.slice a n c,.nilIface])=.returned (.tuple #[.slice a m c,.nilIface]):=by rw[h]
theorem aEf (p b c1 c2:Nat) (a1 a2:Option Addr) (xs ys:List Int) (w:World) (hpr:Num.Prime p) (h3:3<=p) (hm:p<=2147483647) (hp:w.cell? ⟨b,0,none⟩=some (.int .i64 p))
  (hn:xs.length<=17592186043904) (hf1:Fits xs) (hf2:Fits ys) (hr1:RowB w.heap.size w a1 xs) (hr2:RowB w.heap.size w a2 ys) (hl:xs.length=ys.length) (hu:Unl p (zat xs) xs.length) :
  Calls Tryz.prog 111 #[.pointer (some ⟨b,0,none⟩),.slice a1 xs.length c1,.slice a2 ys.length c2] w fun e w'=>∃ (a:Option Addr) (c:Nat),
   e=.returned (.tuple #[.slice a (Dt p xs ys).length c,.nilIface])/\aBw w.heap.size w' a (Dt p xs ys)/\Below w.heap.size w w':=by
 have hb:b<w.heap.size:=qK hp;have HA:=hid (Np p b c1 a1 xs w h3 hm hp (by omega) hf1 hr1);rw[Sq hu] at HA;have HFY:Hid (∀ j,j<xs.length->-9223372036854775808<=zat ys j/\zat ys j<=9223372036854775807):=fun j hj=>hf2 j (by omega);have HRY:Hid (∀ k,k<xs.length->∃ b o,a2=some ⟨b,o,none⟩/\b<w.heap.size/\w.cell? ⟨b,o+k,none⟩=some (.int .i64 (zat ys k))):=fun k hk=>hr2 k (by omega);rw[<- hl];have hbn:((xs.length:Int) != (xs.length:Int))=false:=by simp
 have HF:=hid hf1;have HR:=hid hr1;have HPR:=hid hpr;obtain⟨hvl,hvz⟩:=Co h3 xs;have HVL:=hid hvl;have HVF:Hid (Fits (Aw p xs)):=Ky hm (Pol.mk_can (by omega) _ _);have HSL:Hid (∀ j,j<xs.length->evz p (pdv p (Aw p xs)) (zat xs j)=evz p (Et p xs j xs.length) (zat xs j)):=fun j hj=>aCa h3 xs j hj;clear hf1 hf2 hr1 hr2 hl hu hpr hvl hvz;have hmk:=fun n h1 h2 w=>run_make_row' (P:=Tryz.prog) 25 3 (.int .i64 0) 8 Tryz.underlying25 Tryz.infoInt rfl .i64 .i64 n h1 h2 w;have hmk2:=hmk xs.length (by omega) (by omega);clear hmk;go_enter Tryz.func111,Tryz.ntmps111;go_wp2_with fail;refine HA.out.mono ?_;rintro e w1 ⟨rfl,hb1⟩;have HB1:=hid hb1;have hs1:=hb1.size;have HR1:=hid ((HR.out.below hb1).mono hs1);have hpc1:=(hb1.cell (p:=⟨b,0,none⟩) hb).trans hp;clear hb1 HA;have HV:=hid (Wl p b c1 a1 xs w1 h3 hm hpc1 hn HF.out HR1.out);clear hpc1;go_wp2_with fail;refine HV.out.mono ?_;rintro e w2 ⟨rfl,hcv,hb2,hs2⟩;have HCV:=hid hcv;have HB2:Hid (Below w.heap.size w w2):=HB1.out.trans (hb2.mono hs1);have HR2:=hid ((HR1.out.below hb2).mono hb2.size);have hs2':w1.heap.size<w2.heap.size:=by omega
 clear hcv hb2 hs2 HV HR1;go_wp2_with fail;have HCV3:=hid (HCV.out.below ((Below.refl w2.heap.size w2).alloc (Nat.le_refl _) (.cells (madeCells #[.int .i64 0] xs.length) 3)) hs2');have HB3:Hid (Below w.heap.size w (w2.alloc (.cells (madeCells #[.int .i64 0] xs.length) 3))):=HB2.out.alloc (by omega) _
 have HO3:Hid (Cells w2.heap.size 0 xs.length (fun _=>0) (w2.alloc (.cells (madeCells #[.int .i64 0] xs.length) 3))):=⟨fun j hj=>by
  rw[World.cell?_alloc_at _ _ _ _ (by simp)]
  simp[madeCells,hj,Nat.mod_one],fun j hj=>by simp⟩
 have HR3:=hid ((HR2.out.below ((Below.refl w2.heap.size w2).alloc (Nat.le_refl _) (.cells (madeCells #[.int .i64 0] xs.length) 3))).mono (show w2.heap.size<=(w2.alloc (.cells (madeCells #[.int .i64 0] xs.length) 3)).heap.size by simp));have hs3:w2.heap.size<(w2.alloc (.cells (madeCells #[.int .i64 0] xs.length) 3)).heap.size:=by simp
 clear HR2 HCV;generalize hw3:w2.alloc (.cells (madeCells #[.int .i64 0] xs.length) 3)=w3 at *;clear hw3;have HS:=hid (Wm p b (Aw p xs).length c1 (some ⟨w1.heap.size,0,none⟩) a1 (Aw p xs) xs w3 h3 hm ((HB3.out.cell (p:=⟨b,0,none⟩) hb).trans hp) (by have:=HVL.out;omega) (by omega) HVF.out HF.out (HCV3.out.row (Nat.le_refl _) (fun _ _=>rfl) (by omega)) HR3.out);refine HS.out.mono ?_;rintro e w4 ⟨rfl,hcs,hb4,hs4⟩;have hll:=kQ (fun j=>evz p (pdv p (Aw p xs)) (zat xs j)) xs.length;have hrow4:RowB w4.heap.size w4 (some ⟨w3.heap.size+1,0,none⟩) (ls (fun j=>evz p (pdv p (Aw p xs)) (zat xs j)) xs.length):=hcs.row (by omega) (fun j hj=>kZ _ _ _ (by omega)) hs4;have HB4:Hid (Below w.heap.size w w4):=HB3.out.trans (hb4.mono (by omega));have HI:=hid (aCl p b xs.length (some ⟨w3.heap.size+1,0,none⟩) (ls (fun j=>evz p (pdv p (Aw p xs)) (zat xs j)) xs.length) w4 HPR.out h3 hm ((HB4.out.cell (p:=⟨b,0,none⟩) hb).trans hp) (by omega) (fun j hj=>by rw[kZ _ _ _ (by omega)];have:=Fb p (pdv p (Aw p xs)) (zat xs j) h3;omega) hrow4);rw[hll] at HI;have HCV4:=hid (HCV3.out.below hb4 (by omega));have HO4:=hid (HO3.out.below hb4 (by omega));have hs4':w3.heap.size<w4.heap.size:=by omega
 clear hcs hb4 hs4 hll hrow4 HS HR3 HCV3 HO3;go_wp2_with fail;refine HI.out.mono ?_;rintro e w5 ⟨o,rfl,ho,hout5,hb5⟩;have HO:Hid (∀ j,j<xs.length->o j=yX p (evz p (Et p xs j xs.length) (zat xs j))):=fun j hj=>by rw[ho j hj,kZ _ _ _ hj,HSL.out j hj]
 have HOUT5:Hid (∀ j,j<xs.length->w5.cell? ⟨w4.heap.size+1,j,none⟩=some (.int .i64 (o j:Int))):=hout5.cells;have HCV5:=hid (HCV4.out.below hb5 (by omega));have HO5:=hid (HO4.out.below hb5 (by omega));have HB5:Hid (Below w.heap.size w w5):=HB4.out.trans (hb5.mono (by omega));have hs5:=hb5.size;clear ho hout5 hb5 HI HCV4 HO4;go_wp2_with fail
 go_loopw [36] (fun iv wr=>∃ (k:Nat),k<=xs.length/\iv=.int .i64 k/\Hid (Cells w2.heap.size 0 xs.length (fsm p xs ys k) wr)/\Hid (Only w2.heap.size w5 wr))
  (fun iv _=>xs.length-(intOf iv).toNat)
 case atStart=>exact⟨0,Nat.zero_le _,rfl,HO5.out.congr (fun j _=>(aCm p xs ys j).symm),Only.refl _ _⟩
 case round =>
  obtain⟨k,hk,rfl,hout,honly⟩:=hrel;have hbw:=HB5.out.trans (honly.out.below (show w.heap.size<=w2.heap.size by omega));by_cases hlt:k<xs.length
  ·have hlt2:(k:Int)<(xs.length:Int):=by omega
   obtain⟨bx,ox,rfl,hbx,hcx⟩:=HR.out k hlt;obtain⟨by',oy,rfl,hby,hcy⟩:=HRY.out k hlt;have hcx2:=(hbw.cell (p:=⟨bx,ox+k,none⟩) hbx).trans hcx;have hcy2:=(hbw.cell (p:=⟨by',oy+k,none⟩) hby).trans hcy;have hci:=(honly.out.cell (p:=⟨w4.heap.size+1,k,none⟩) (by show w4.heap.size+1≠w2.heap.size;omega)).trans (HOUT5.out k hlt);rw[HO.out k hlt] at hci;have hpc:=(hbw.cell (p:=⟨b,0,none⟩) hb).trans hp;obtain⟨hx1,hx2⟩:=HF.out k hlt;obtain⟨hy1,hy2⟩:=HFY.out k hlt;have hil:=Fr p (evz p (Et p xs k xs.length) (zat xs k)) h3;have hcb:=qQ (zat ys k*(yX p (evz p (Et p xs k xs.length) (zat xs k)):Int)) p h3
   have HM:Hid (∀ W:World,W.cell? ⟨b,0,none⟩=some (.int .i64 p)->Calls Tryz.prog 78 #[.pointer (some ⟨b,0,none⟩),.int .i64 (zat ys k),.int .i64 (yX p (evz p (Et p xs k xs.length) (zat xs k)):Int)] W fun e w'=>e=.returned (.int .i64 (fc p xs ys k))/\w'=W) :=
    fun W h=>kK p b _ _ W h3 hm h hy1 hy2 (by omega) (by omega)
   rw[show zat ys k*(yX p (evz p (Et p xs k xs.length) (zat xs k)):Int) % (p:Int)=fc p xs ys k from rfl] at hcb
   have HAW:Hid (Calls Tryz.prog 151 #[.pointer (some ⟨b,0,none⟩),.slice (some ⟨w2.heap.size,0,none⟩) xs.length xs.length,.slice (some ⟨w1.heap.size,0,none⟩) (Aw p xs).length (Aw p xs).length,.int .i64 (zat xs k),.int .i64 (fc p xs ys k)] wr.drew fun e w' =>
     e=.returned (.tuple #[])/\Cells w2.heap.size 0 xs.length (awf p (fsm p xs ys k) (Aw p xs) (zat xs k) (fc p xs ys k) xs.length xs.length) w'/\Only w2.heap.size wr.drew w') :=
    aDZ p b w2.heap.size xs.length xs.length (Aw p xs).length (some ⟨w1.heap.size,0,none⟩) (fsm p xs ys k) (Aw p xs) (zat xs k) (fc p xs ys k) wr.drew h3 hm hpc (by omega) HVL.out.symm (by omega) (fun j _=>Li p xs ys k j h3) HVF.out hx1 hx2 (by omega) (by omega) hout.out.drew
     (fun j hj=>⟨w1.heap.size,0,rfl,by omega,((HCV5.out.only honly.out (by omega)).drew).cells j hj⟩)
   have HST:Hid (∀ j,j<xs.length->awf p (fsm p xs ys k) (Aw p xs) (zat xs k) (fc p xs ys k) xs.length xs.length j=fsm p xs ys (k+1) j):=fun j hj=>aCn h3 xs ys k hlt j hj;clear hcx hcy hbw;generalize awf p (fsm p xs ys k) (Aw p xs) (zat xs k) (fc p xs ys k) xs.length xs.length=aw at *;generalize fc p xs ys k=cc at *;generalize yX p (evz p (Et p xs k xs.length) (zat xs k))=iv at *;generalize zat ys k=y at *;generalize zat xs k=x at *;go_wp2_with fail
   go_region_with (first
    | (go_at_call 78;refine (HM.out _ ?_).mono ?_;exact hpc;rintro e w6 ⟨rfl,rfl⟩)
    | (go_at_call 151;refine HAW.out.mono ?_;rintro e w7 ⟨rfl,hc7,ho7⟩;have HC7:=hid hc7;have HO7:=hid ho7;clear hc7 ho7))
   all_goals
    go_wp2_with fail;go_roundw
    case rel=>exact⟨k+1,by omega,by go_num,HC7.out.congr HST.out,honly.out.drew.trans HO7.out⟩
    case measure=>simp[intOf];omega
  ·have hlt2:¬ (k:Int)<(xs.length:Int):=by omega
   obtain rfl:k=xs.length:=by omega
   have hpc:=(hbw.cell (p:=⟨b,0,none⟩) hb).trans hp;have HW:=hid (Is p b w2.heap.size xs.length xs.length (fsm p xs ys xs.length) wr h3 hm hpc (by omega) (Nat.le_refl _) (fun j _=>by have:=Li p xs ys xs.length j h3;omega) hout.out);have HL:Hid (tpn p (fsm p xs ys xs.length) xs.length=(Dt p xs ys).length):=(Pol.tp_mod p _ _).trans (Pol.mk_length _ _ _).symm;have htl:=Wb p (fsm p xs ys xs.length) xs.length
   have HZ:Hid (∀ j,j<(Dt p xs ys).length->zat (Dt p xs ys) j=fsm p xs ys xs.length j):=fun j hj=>by rw[Dt,Pol.mk_length] at hj;exact Pol.mk_at p _ _ j hj
   have HBW:=hid hbw;have hsw:w2.heap.size<wr.heap.size:=by rw[honly.out.size];omega
   clear hbw;go_wp2_with fail;refine HW.out.mono ?_;rintro e w6 ⟨rfl,rfl⟩;go_wp2_with fail;go_ret2;exact⟨_,_,aEe HL.out,hout.out.newr (by have:=HL.out;omega) HZ.out (by omega) hsw,HBW.out⟩
end Go.Proofs.YtkdndfbfmchcpaaGreatDoor
