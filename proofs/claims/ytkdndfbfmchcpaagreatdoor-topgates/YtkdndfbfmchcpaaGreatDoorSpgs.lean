
import Derived.Test.YtkdndfbfmchcpaaGreatDoorRefs
import Derived.Laws.Rows
import Derived.Laws.Tables
import Derived.Laws.CopyOwn
set_option maxRecDepth 1000000
set_option maxHeartbeats 8000000
namespace Go.Proofs.YtkdndfbfmchcpaaGreatDoor
variable {b d j n n0 q s:Nat}{w w':World}
open Go.RowKit
namespace Spo
def pab (i:Nat):Nat->Int
 | 0=>1
 | k+1=>pab i k*((i:Int)+(k:Int)+8)
def pbe (i:Nat):Nat->Int
 | 0=>1
 | k+1=>if k=i then pbe i k else pbe i k*((i:Int)-(k:Int))
end Spo
def wt (q:Nat) (i:Nat):Int:=Spo.pab i 8 % (q:Int)*(yX q (Spo.pbe i 8 % (q:Int)):Int) % (q:Int)
open Go.RowKit
def an (n:Nat) (f:Nat->Int):Array Value:=((List.range n).map (fun j=>Value.int .i64 (f j))).toArray
theorem kV (n:Nat) (f:Nat->Int):(an n f).size=n:=by simp[an]
theorem Od{f:Nat->Int} (h:j<n):(an n f)[j]?=some (.int .i64 (f j)):=by simp[an,h]
theorem aBI (n:Nat) (f:Nat->Int):(an n f).all (·.oneCell')=true:=by
 rw[Array.all_eq_true_iff_forall_mem];intro v hv;simp[an] at hv;obtain⟨j,_,rfl⟩:=hv;rfl
theorem Le{f g:Nat->Int} (h:∀ j,j<n->f j=g j):an n f=an n g:=by
 unfold an
 congr 1
 refine List.map_congr_left (fun j hj=>?_);rw[h j (List.mem_range.1 hj)]
def ArrI (w:World) (b:Nat) (t:TypeId) (n:Nat) (f:Nat->Int):Prop:=w.rowIs b t n (fun j=>.int .i64 (f j))
theorem ArrI.heap{t:TypeId}{f:Nat->Int} (h:ArrI w b t n f):w.heap[b]?=some (.cells (an n f) t (0,0)):=by
 obtain⟨c,h1,h2,h3⟩:=h;rw[h1]
 have:c=an n f:=by
  apply Array.ext_getElem?;intro i;by_cases hi:i<n
  ·rw[h3 i hi,Od hi]
  ·rw[Array.getElem?_eq_none (by omega),Array.getElem?_eq_none (by rw[kV];omega)]
 rw[this]
theorem ArrI.of{t:TypeId}{f:Nat->Int} (h:w.heap[b]?=some (.cells (an n f) t (0,0))):ArrI w b t n f:=⟨_,h,kV n f,fun _ hi=>Od hi⟩
theorem ArrI.new (w:World) (n:Nat) (t:TypeId) (f:Nat->Int):ArrI (w.alloc (.cells (an n f) t)) w.heap.size t n f:=ArrI.of (heap_alloc_new w _)
theorem ArrI.new2 (w:World) (o:Obj) (n:Nat) (t:TypeId) (f:Nat->Int):ArrI ((w.alloc o).alloc (.cells (an n f) t)) (w.heap.size+1) t n f:=by
 have:=ArrI.new (w.alloc o) n t f
 rwa [show (w.alloc o).heap.size=w.heap.size+1 from by simp] at this
theorem ArrI.cell{t:TypeId}{f:Nat->Int} (h:ArrI w b t n f) {i:Nat} (hi:i<n):w.cell? ⟨b,i,none⟩=some (.int .i64 (f i)):=World.rowIs.cell h hi
theorem ArrI.frozen{t:TypeId}{f:Nat->Int} (h:ArrI w b t n f) (i:Nat):w.frozen? ⟨b,i,none⟩=false:=World.rowIs.frozen h i
theorem ArrI.lt{t:TypeId}{f:Nat->Int} (h:ArrI w b t n f):b<w.heap.size:=World.rowIs.lt h
theorem ArrI.congr{t:TypeId}{f g:Nat->Int} (h:ArrI w b t n f) (e:∀ j,j<n->f j=g j):ArrI w b t n g:=World.rowIs.congr h (fun j hj=>by rw[e j hj])
theorem ArrI.block{t:TypeId}{f:Nat->Int} (h:ArrI w b t n f) (e:w'.heap[b]?=w.heap[b]?):ArrI w' b t n f:=World.rowIs.of_block h e
theorem ArrI.below{t:TypeId}{f:Nat->Int} (h:ArrI w b t n f) (e:Below n0 w w') (hb:b<n0):ArrI w' b t n f:=h.block (e.block b hb)
theorem ArrI.set{t:TypeId}{f:Nat->Int} (h:ArrI w b t n f) (i:Nat) (x:Int):ArrI (w.setCell ⟨b,i,none⟩ (.int .i64 x)) b t n (up f i x) :=
 World.rowIs.congr (World.rowIs.set h i (.int .i64 x)) (fun j _=>by show (if j=i then _ else _)=Value.int .i64 (up f i x j);unfold up;split <;> rfl)
theorem ArrI.other{t:TypeId}{f:Nat->Int} (h:ArrI w b t n f) {a:Addr} (ha:b≠a.block) (v:Value):ArrI (w.setCell a v) b t n f:=World.rowIs.setOther h ha v
theorem ArrI.alloc{t:TypeId}{f:Nat->Int} (h:ArrI w b t n f) (o:Obj):ArrI (w.alloc o) b t n f:=World.rowIs.alloc h o
theorem ArrI.drew{t:TypeId}{f:Nat->Int} (h:ArrI w b t n f):ArrI w.drew b t n f:=h
theorem ArrI.setRow{t:TypeId}{f:Nat->Int} (h:ArrI w b t n f) (g:Nat->Int):ArrI (w.setRow b (an n g)) b t n g:=ArrI.of (setRow_heap w b _ _ t _ h.heap)
theorem ArrI.otherRow{t:TypeId}{f:Nat->Int} (h:ArrI w b t n f) {g:Nat} (hg:b≠g) (cs:Array Value):ArrI (w.setRow g cs) b t n f:=h.block (setRow_other w g b cs hg)
def fll (g f:Nat->Int) (k:Nat):Nat->Int:=fun j=>if j<k then g j else f j
theorem jJ (g f:Nat->Int):fll g f 0=f:=funext fun j=>by simp[fll]
theorem Wf (g f:Nat->Int) (k:Nat):fll g f k k=f k:=by simp[fll]
theorem aFl (g f:Nat->Int) (k:Nat):up (fll g f k) k (g k)=fll g f (k+1):=funext fun j=>by
 unfold up fll;by_cases h:j=k
 ·subst h;simp
 ·rw[if_neg h];by_cases h2:j<k
  ·rw[if_pos h2,if_pos (by omega)]
  ·rw[if_neg h2,if_neg (by omega)]
theorem zV{g f:Nat->Int} (h:j<n):fll g f n j=g j:=by simp[fll,h]
theorem ArrI.next{t:TypeId}{g f:Nat->Int}{k:Nat} (h:ArrI w b t n (fll g f k)):ArrI (w.setCell ⟨b,k,none⟩ (.int .i64 (g k))) b t n (fll g f (k+1)):=by
 rw[<- aFl];exact h.set k (g k)
theorem jU{P:Program}{ops:Array Oper}{rest:List Oper}{o:Oper}{a:Act}{Q:Exit->Act->World->Prop} (hgd:o.guard=none) (ty:TypeId) (x:Operand) (ho:o.op=.load ty x)
  (g:Nat) (hx:a.eval x=.pointer (some ⟨g,0,none⟩)) (t:TypeId) (n m:Nat) (e:TypeId) (f:Nat->Int) (hr:ArrI w g t n f) (hu:P.underlying ty=some (.array m e)) (hi:(P.info? ty).map (·.size)=some n)
  (h:wpList P ops Q rest (a.put o.dst (.agg (an n f))) w):wpList P ops Q (o :: rest) a w :=
 wpList_load_row hgd ty x ho g hx t (an n f) (0,0) _ hr.heap hu rfl (by rw[kV];exact hi) h
theorem jX{P:Program}{ops:Array Oper}{rest:List Oper}{o:Oper}{a:Act}{Q:Exit->Act->World->Prop} (hgd:o.guard=none) (ty:TypeId) (x y:Operand) (ho:o.op=.store ty x y)
  (g n:Nat) (f h0:Nat->Int) (hx:a.eval x=.pointer (some ⟨g,0,none⟩)) (hy:a.eval y=.agg (an n f)) (t:TypeId) (hr:ArrI w g t n h0) (hi:(P.info? ty).map (·.size)=some n)
  (h:wpList P ops Q rest (a.put o.dst undef) (w.setRow g (an n f))):wpList P ops Q (o :: rest) a w :=
 wpList_store_row hgd ty x y ho g (an n f) hx hy t (an n h0) hr.heap (by rw[kV];exact hi) (by rw[kV,kV]) (aBI n f) h
theorem xQ{P:Program}{fn:Func}{p:Tmp}{ty:TypeId} (h:fn.results=#[.cell p ty]) (tmps:Array Value) (w:World) (g:Nat) (t:TypeId) (n m:Nat) (e:TypeId) (f:Nat->Int)
  (hp:tmps.getD p undef=.pointer (some ⟨g,0,none⟩)) (hr:ArrI w g t n f) (hu:P.underlying ty=some (.array m e)) (hi:(P.info? ty).map (·.size)=some n) :
  (results fn tmps).run P w=.ok (.agg (an n f)) w :=
 results_cell_row h tmps w g t (an n f) (0,0) _ hp hr.heap hu rfl (by rw[kV];exact hi)
structure SpgAt (w:World) (s b q n d:Nat):Prop where
 f:w.cell? ⟨s,0,none⟩=some (.pointer (some ⟨b,0,none⟩))
 pw:w.cell? ⟨s,1,none⟩=some (.int .i64 n)
 rt:w.cell? ⟨s,2,none⟩=some (.int .i64 d)
 mat:∀ i j,i<8->j<8->w.cell? ⟨s,3+i*8+j,none⟩=some (.int .i64 (yX q ((i+j+8:Nat):Int)))
 wts:∀ i,i<8->w.cell? ⟨s,67+i,none⟩=some (.int .i64 (wt q i))
 cst:∀ r i,r<8->i<8->w.cell? ⟨s,75+r*8+i,none⟩=some (.int .i64 (cst q r i))
 p:w.cell? ⟨b,0,none⟩=some (.int .i64 q)
theorem SpgAt.lt (h:SpgAt w s b q n d):s<w.heap.size:=qK h.f
theorem SpgAt.ltb (h:SpgAt w s b q n d):b<w.heap.size:=qK h.p
theorem SpgAt.blocks (h:SpgAt w s b q n d) (e:w'.heap[s]?=w.heap[s]?) (e2:w'.heap[b]?=w.heap[b]?):SpgAt w' s b q n d :=
 ⟨(World.cell?_of_block (w:=w) (a:=⟨s,0,none⟩) e).trans h.f,(World.cell?_of_block (w:=w) (a:=⟨s,1,none⟩) e).trans h.pw,(World.cell?_of_block (w:=w) (a:=⟨s,2,none⟩) e).trans h.rt,
  fun i j hi hj=>(World.cell?_of_block (w:=w) (a:=⟨s,3+i*8+j,none⟩) e).trans (h.mat i j hi hj),fun i hi=>(World.cell?_of_block (w:=w) (a:=⟨s,67+i,none⟩) e).trans (h.wts i hi),
  fun r i hr hi=>(World.cell?_of_block (w:=w) (a:=⟨s,75+r*8+i,none⟩) e).trans (h.cst r i hr hi),(World.cell?_of_block (w:=w) (a:=⟨b,0,none⟩) e2).trans h.p⟩
theorem SpgAt.below (h:SpgAt w s b q n d) (e:Below n0 w w') (hs:s<n0) (hb:b<n0):SpgAt w' s b q n d:=h.blocks (e.block s hs) (e.block b hb)
theorem SpgAt.keep (h:SpgAt w s b q n d) (e:Below w.heap.size w w'):SpgAt w' s b q n d:=h.below e h.lt h.ltb
theorem aBJ{x y:Int} (hm:q<=2147483647) (h1:0<=x) (h2:x<q) (h3:0<=y) (h4:y<q):0<=x*y/\x*y<=4611686014132420609:=by
 refine⟨Int.mul_nonneg h1 h3,?_⟩;have:=Int.mul_le_mul (show x<=2147483647 by omega) (show y<=2147483647 by omega) h3 (by decide);omega
theorem aBK (q:Nat) (f:Nat->Int) (i k:Nat):(mxs q f i k+(yX q ((i+k+8:Nat):Int):Int)*f k) % (q:Int)=mxs q f i (k+1):=by
 rw[<- aBE,Int.mul_comm,Int.add_emod_emod]
theorem aAC (q n d b s:Nat) (f:Nat->Int) (w:World) (h3:3<=q) (hm:q<=2147483647) (hs:SpgAt w s b q n d) (hf:∀ j,j<8->0<=f j/\f j<q) :
  Calls Tryz.prog 154 #[.pointer (some ⟨s,0,none⟩),.agg (an 8 f)] w fun e w'=>e=.returned (.agg (an 8 (mx q f)))/\Below w.heap.size w w':=by
 have hmx:Tryz.prog.follows .mixedOrders=true:=by kernel_rfl
 have HS:=hid hs;have HF:=hid hf;clear hs hf;go_enter Tryz.func154,Tryz.ntmps154;go_wp2_with fail
 go_loopw [8] (fun iv wr=>∃ k:Nat,k<=8/\iv=.int .i64 k/\Hid (ArrI wr w.heap.size 67 8 f)/\Hid (ArrI wr (w.heap.size+1) 67 8 (fll (mx q f) (fun _=>0) k))/\Hid (Below w.heap.size w wr))
  (fun iv _=>8-(intOf iv).toNat)
 case atStart =>
  refine⟨0,by omega,rfl,(ArrI.new w 8 67 f).alloc _,?_,((Below.refl _ _).alloc (Nat.le_refl _) _).alloc (by simp) _⟩;rw[jJ];exact ArrI.new2 w (.cells (an 8 f) 67) 8 67 (fun _=>0)
 case round =>
  obtain⟨k,hk,rfl,hA,hB,hbel⟩:=hrel;by_cases hlt:k<8
  ·have hlt2:(k:Int)<8:=by omega
   have HC:Hid (Hid (ArrI wr w.heap.size 67 8 f)/\Hid (ArrI wr (w.heap.size+1) 67 8 (fll (mx q f) (fun _=>0) k))/\Hid (Below w.heap.size w wr)):=⟨hA,hB,hbel⟩
   clear hA hB hbel;go_wp2_with fail;obtain⟨wo,rfl⟩:=exE (wr)
   go_loopw [6,11] (fun sv jv wr=>∃ j:Nat,j<=8/\jv=.int .i64 j/\sv=.int .i64 (mxs q f k j)/\Hid (Hid (ArrI wr w.heap.size 67 8 f)/\Hid (ArrI wr (w.heap.size+1) 67 8 (fll (mx q f) (fun _=>0) k))/\Hid (Below w.heap.size w wr)))
    (fun _ jv _=>8-(intOf jv).toNat)
   case atStart=>exact⟨0,by omega,rfl,by unfold mxs;rfl,HC⟩
   case round =>
    obtain⟨j,hj,rfl,rfl,hC⟩:=hrel;obtain⟨hA,hB,hbel⟩:=hC.out;by_cases hjl:j<8
    ·have hjl2:(j:Int)<8:=by omega
     have c1:=hA.out.cell hjl;have HSW:=hid (HS.out.keep hbel.out);have s0:=HSW.out.f;have s1:=HSW.out.mat k j hlt hjl;have hks:IntKind.i64.wrap ((j:Int)+1)=(j:Int)+1:=by rw[IntKind.wrap_i64];omega
     have hb1:=HF.out j hjl;have hb2:=Fr q ((k+j+8:Nat):Int) h3;have hb3:0<=mxs q f k j/\mxs q f k j<q:=qQ _ q h3;have HST:=hid (aBK q f k j);generalize mxs q f k j=S0 at *;generalize f j=y at *;generalize yX q ((k+j+8:Nat):Int)=z at *;obtain⟨hp1,hp2⟩:=aBJ hm (show 0<=(z:Int) by omega) (by omega) hb1.1 hb1.2;have hw1:IntKind.i64.wrap ((z:Int)*y)=(z:Int)*y:=by rw[IntKind.wrap_i64];omega
     have hw2:IntKind.i64.wrap (S0+(z:Int)*y)=S0+(z:Int)*y:=by rw[IntKind.wrap_i64];omega
     have HMx:=hid (zZ q b (S0+(z:Int)*y) wr.drew h3 hm HSW.out.p (by omega) (by omega));rw[HST.out] at HMx;have HE:Hid (Hid (ArrI wr.drew w.heap.size 67 8 f)/\Hid (ArrI wr.drew (w.heap.size+1) 67 8 (fll (mx q f) (fun _=>0) k))/\Hid (Below w.heap.size w wr.drew)):=⟨hA,hB,hbel.out.drew⟩
     clear hA hB hbel hC HC hb1 hb2 hb3 hp1 hp2 HST;go_wp2_with fail;go_still_tail 19,hmx
     still_call HMx.out
     repeat still_step
     refine wpStill_nil ?_;go_wp2_with fail;go_roundw
     case rel=>exact⟨j+1,by omega,by go_num,rfl,HE⟩
     case measure=>simp[intOf];omega
    ·obtain rfl:j=8:=by omega
     have c2:=hB.out.cell hlt;have y2:=hB.out.frozen k;have hks:IntKind.i64.wrap ((k:Int)+1)=(k:Int)+1:=by rw[IntKind.wrap_i64];omega
     have HA2:=hid (hA.out.other (a:=⟨w.heap.size+1,k,none⟩) (by simp) (.int .i64 (mx q f k)));have HB2:=hid hB.out.next
     have HBL:=hid (hbel.out.setCell (p:=⟨w.heap.size+1,k,none⟩) (by simp) (.int .i64 (mx q f k)));rw[show mxs q f k 8=mx q f k from rfl];clear hA hB hbel hC HC;go_wp2_with fail;go_roundw
     case rel=>exact⟨k+1,by omega,by go_num,HA2,HB2,HBL⟩
     case measure=>simp[intOf];omega
  ·obtain rfl:k=8:=by omega
   have HA8:Hid (ArrI wr (w.heap.size+1) 67 8 (mx q f)):=hB.out.congr (fun j hj=>zV hj);clear hA hB
   go_wp2_with (first
    | (refine jU rfl 67 _ rfl _ rfl _ _ _ _ _ HA8.out Tryz.underlying67 (by kernel_rfl) ?_)
    | (refine jX rfl 67 _ _ rfl _ _ _ _ rfl rfl _ HA8.out (by kernel_rfl) ?_))
   refine bodyPost_ret (xQ rfl _ _ (w.heap.size+1) 67 8 _ _ (mx q f) rfl (HA8.out.setRow _) Tryz.underlying67 (by kernel_rfl)) rfl ?_;exact⟨rfl,below_setRow hbel.out (by omega) _⟩
structure SpgOk (q n d:Nat):Prop where
 pr:Num.Prime q
 h23:23<=q
 hm:q<=2147483647
 pw:Spo.PowIs q n
 bk:d*n % (q-1)=1
 d1:1<=d
 dm:d<=2147483647
 nm:n<=2147483647
theorem Sn (q n:Nat) (a:Int) (hq:Num.Prime q) (h3:3<=q) (hn:1<=n):((Bg q a n:Nat):Int)=a ^ n % (q:Int):=by
 by_cases hz:a % (q:Int)=0
 ·unfold Bg;rw[if_pos ⟨hz,by omega⟩];obtain⟨m,rfl⟩:∃ m,n=m+1:=⟨n-1,by omega⟩
  have:(q:Int)∣a ^ (m+1):=by rw[Int.pow_succ];exact Int.dvd_trans (Int.dvd_of_emod_eq_zero hz) (Int.dvd_mul_left _ _)
  rw[Int.emod_eq_zero_of_dvd this];rfl
 ·rw[aBt q a n hq h3 hz];exact aDT q a n h3
def pwr (q n:Nat) (f:Nat->Int) (k i:Nat):Int:=(Dq q n f k i+cst q k i) ^ n % (q:Int)
theorem Px (q n d b s:Nat) (f:Nat->Int) (w:World) (ok:SpgOk q n d) (hs:SpgAt w s b q n d) (hf:∀ j,j<8->0<=f j/\f j<q) :
  Calls Tryz.prog 115 #[.pointer (some ⟨s,0,none⟩),.agg (an 8 f)] w fun e w'=>e=.returned (.agg (an 8 (Dq q n f 8)))/\Below w.heap.size w w':=by
 have hmx:Tryz.prog.follows .mixedOrders=true:=by kernel_rfl
 have h3:3<=q:=by have:=ok.h23;omega
 have hm:=ok.hm;have hnm:=ok.nm;have hn1:1<=n:=by have:=ok.pw.1;omega
 have HPR:=hid ok.pr;have HS:=hid hs;have HF:=hid hf;clear hs hf ok;go_enter Tryz.func115,Tryz.ntmps115;go_wp2_with fail
 go_loopw [7] (fun iv wr=>∃ k:Nat,k<=8/\iv=.int .i64 k/\Hid (ArrI wr w.heap.size 67 8 (Dq q n f k))/\Hid (ArrI wr (w.heap.size+1) 67 8 (fun _=>0))/\Hid (Below w.heap.size w wr))
  (fun iv _=>8-(intOf iv).toNat)
 case atStart =>
  refine⟨0,by omega,rfl,?_,ArrI.new2 w (.cells (an 8 f) 67) 8 67 (fun _=>0),((Below.refl _ _).alloc (Nat.le_refl _) _).alloc (by simp) _⟩
  exact ((ArrI.new w 8 67 f).alloc _).congr (fun j hj=>by
   obtain⟨h1,h2⟩:=HF.out j hj
   exact (Int.emod_eq_of_lt h1 h2).symm)
 case round =>
  obtain⟨k,hk,rfl,hA,hB,hbel⟩:=hrel;by_cases hlt:k<8
  ·have hlt2:(k:Int)<8:=by omega
   have HC:Hid (Hid (ArrI wr w.heap.size 67 8 (fll (pwr q n f k) (Dq q n f k) 0))/\Hid (ArrI wr (w.heap.size+1) 67 8 (fun _=>0))/\Hid (Below w.heap.size w wr)):=by rw[jJ];exact⟨hA,hB,hbel⟩
   clear hA hB hbel;go_wp2_with fail;obtain⟨wo,rfl⟩:=exE (wr)
   go_loopw [10] (fun jv wr=>∃ j:Nat,j<=8/\jv=.int .i64 j/\Hid (Hid (ArrI wr w.heap.size 67 8 (fll (pwr q n f k) (Dq q n f k) j))/\Hid (ArrI wr (w.heap.size+1) 67 8 (fun _=>0))/\Hid (Below w.heap.size w wr)))
    (fun jv _=>8-(intOf jv).toNat)
   case atStart=>exact⟨0,by omega,rfl,HC⟩
   case round =>
    obtain⟨j,hj,rfl,hC⟩:=hrel;obtain⟨hA,hB,hbel⟩:=hC.out;by_cases hjl:j<8
    ·have hjl2:(j:Int)<8:=by omega
     have c1:=hA.out.cell hjl;have y1:=hA.out.frozen j;rw[Wf] at c1;have HSW:=hid (HS.out.keep hbel.out);have s0:=HSW.out.f;have s2:=HSW.out.pw;have s1:=HSW.out.cst k j hlt hjl;have hks:IntKind.i64.wrap ((j:Int)+1)=(j:Int)+1:=by rw[IntKind.wrap_i64];omega
     have HE:Hid (Hid (ArrI (wr.setCell ⟨w.heap.size,j,none⟩ (.int .i64 (pwr q n f k j))).drew w.heap.size 67 8 (fll (pwr q n f k) (Dq q n f k) (j+1)))/\Hid (ArrI (wr.setCell ⟨w.heap.size,j,none⟩ (.int .i64 (pwr q n f k j))).drew (w.heap.size+1) 67 8 (fun _=>0))/\Hid (Below w.heap.size w (wr.setCell ⟨w.heap.size,j,none⟩ (.int .i64 (pwr q n f k j))).drew)) :=
      ⟨hA.out.next,hB.out.other (a:=⟨w.heap.size,j,none⟩) (by simp) _,(hbel.out.setCell (p:=⟨w.heap.size,j,none⟩) (by simp) _).drew⟩
     have hb1:=Dr q n f k j h3;have hb2:=Wd q k j h3;have HPW:Hid (((Bg q (Dq q n f k j+cst q k j) n:Nat):Int)=pwr q n f k j):=Sn q n _ HPR.out h3 hn1;generalize pwr q n f k j=x at *;generalize Dq q n f k j=y at *;generalize cst q k j=z at *;have hw1:IntKind.i64.wrap (y+z)=y+z:=by rw[IntKind.wrap_i64];omega
     have HMx:=hid (Ei q b (y+z) n wr.drew h3 hm HSW.out.p (by omega) (by omega) (by omega) (by omega));rw[HPW.out] at HMx;clear hA hB hbel hC HC hb1 hb2 HPW;go_wp2_with fail;go_still_tail 22,hmx
     still_call HMx.out
     repeat still_step
     refine wpStill_nil ?_;go_wp2_with fail;go_roundw
     case rel=>exact⟨j+1,by omega,by go_num,HE⟩
     case measure=>simp[intOf];omega
    ·obtain rfl:j=8:=by omega
     have hks:IntKind.i64.wrap ((k:Int)+1)=(k:Int)+1:=by rw[IntKind.wrap_i64];omega
     have HA8:Hid (ArrI wr w.heap.size 67 8 (pwr q n f k)):=hA.out.congr (fun j hj=>zV hj);have HB8:=hid hB.out;have HBL:=hid hbel.out;have HSW:=hid (HS.out.keep hbel.out);have hltA:=HA8.out.lt;have hltB:=HB8.out.lt;clear hA hB hbel hC HC;go_wp2_with (refine jU rfl 67 _ rfl _ rfl _ _ _ _ _ HA8.out Tryz.underlying67 (by kernel_rfl) ?_);refine (aAC q n d b s (pwr q n f k) wr h3 hm HSW.out (fun j _=>qQ _ q h3)).mono ?_;rintro e w1 ⟨rfl,hb1⟩;have HA1:=hid (HA8.out.below hb1 hltA);have HB1:=hid (HB8.out.below hb1 hltB);have HBL1:Hid (Below w.heap.size w w1):=HBL.out.trans (hb1.mono HBL.out.size);clear hb1 HA8 HB8 HBL HSW;go_wp2_with (refine jX rfl 67 _ _ rfl _ _ _ _ rfl rfl _ HA1.out (by kernel_rfl) ?_);go_roundw
     case rel=>exact⟨k+1,by omega,by go_num,HA1.out.setRow _,HB1.out.otherRow (by omega) _,below_setRow HBL1.out (Nat.le_refl _) _⟩
     case measure=>simp[intOf];omega
  ·obtain rfl:k=8:=by omega
   go_wp2_with (first
    | (refine jU rfl 67 _ rfl _ rfl _ _ _ _ _ hA.out Tryz.underlying67 (by kernel_rfl) ?_)
    | (refine jX rfl 67 _ _ rfl _ _ _ _ rfl rfl _ hB.out (by kernel_rfl) ?_))
   refine bodyPost_ret (xQ rfl _ _ (w.heap.size+1) 67 8 _ _ (Dq q n f 8) rfl (hB.out.setRow _) Tryz.underlying67 (by kernel_rfl)) rfl ?_;exact⟨rfl,below_setRow hbel.out (by omega) _⟩
theorem xZ{P:Program}{f:FuncId}{fn:Func} (hf : P.funcs[f]? = some fn) (hb : fn.body.isNone = false) (hn : (fn.name == "runtime.NumGoroutine") = false) (args : Array Value) (w : World) : (callFunc f args).run P w = .ok (.enter f args) w := by
 simp only[callFunc,Sem.run_bind,run_program,Result.andThen_ok,hf,hn,hb];rfl
theorem aDU (a b:Nat) (w:World) (ha:a<=2147483647) (hb:b<=2147483647) :
  Calls Tryz.prog 94 #[.int .i64 a,.int .i64 b] w fun e w'=>e=.returned (.int .i64 (Nat.gcd a b))/\Below w.heap.size w w':=by
 have hmx:Tryz.prog.follows .mixedOrders=true:=by kernel_rfl
 go_enter Tryz.func94,Tryz.ntmps94;go_wp2_with fail;go_loopw [0,1] (fun av bv wr=>∃ x y:Nat,x<=2147483647/\y<=2147483647/\av=.int .i64 x/\bv=.int .i64 y/\Hid (Nat.gcd x y=Nat.gcd a b)/\Hid (Below w.heap.size w wr)) (fun _ bv _=>(intOf bv).toNat)
 case atStart=>exact⟨a,b,ha,hb,rfl,rfl,rfl,Below.refl _ _⟩
 case round =>
  obtain⟨x,y,hx,hy,rfl,rfl,hg,hbel⟩:=hrel;by_cases h0:y=0
  ·subst h0;go_wp2_with fail;go_ret;exact⟨xJ (by rw[<- hg.out,Nat.gcd_zero_right]),hbel.out⟩
  ·have hb0:((y:Int) != 0)=true:=by rw[bne_iff_ne];omega
   have hlt:=Nat.mod_lt x (show 0<y by omega);have HG2:Hid (Nat.gcd y (x % y)=Nat.gcd a b):=by show Nat.gcd y (x % y)=_;rw[<- hg.out,Nat.gcd_comm y,<- Nat.gcd_rec,Nat.gcd_comm]
   have hmod:Int.tmod (x:Int) (y:Int)=((x % y:Nat):Int):=by rw[Int.tmod_eq_emod_of_nonneg (by omega)];simp
   have h0':¬ (y:Int)=0:=by omega
   have HB:=hid hbel.out.drew;clear hg hbel;generalize x % y=z at *;go_wp2_with fail
   go_region
   all_goals
    go_wp2_with fail;go_roundw
    case rel=>exact⟨y,z,hy,by omega,rfl,by first | rfl | simp,HG2,HB⟩
    case measure=>simp[intOf];omega
theorem So (q:Nat) (w:World) (h5:5<=q) (hm:q<=2147483647) :
  Calls Tryz.prog 45 #[.int .i64 ((q:Int)-1)] w fun e w'=>∃ m:Nat,e=.returned (.int .i64 m)/\Spo.PowIs q m/\m<q/\Below w.heap.size w w':=by
 obtain⟨N,hN⟩:∃ N:Nat,N=q-1:=⟨_,rfl⟩
 have hN1:(q:Int)-1=(N:Int):=by omega
 rw[hN1];have HG:Hid (∀ m:Nat,m<=2147483647->∀ w1:World,Calls Tryz.prog 94 #[.int .i64 m,.int .i64 N] w1 fun e w'=>e=.returned (.int .i64 (Nat.gcd m N))/\Below w1.heap.size w1 w'):=fun m h w1=>aDU m N w1 h (by omega);have HQ:Hid (N=q-1/\5<=q):=⟨hN,h5⟩
 have hNm:N<=2147483647:=by omega
 clear hN hN1 h5 hm;go_enter Tryz.func45,Tryz.ntmps45;go_wp2_with fail;go_loopw [5] (fun iv wr=>∃ k:Nat,k<=N/\iv=.int .i64 k/\Hid (∀ m,2<=m->m<k->¬ Spo.Apart m N)/\Hid (Below w.heap.size w wr)) (fun iv _=>N-(intOf iv).toNat)
 case atStart=>exact⟨0,Nat.zero_le _,rfl,fun m _ h=>by omega,Below.refl _ _⟩
 case round =>
  obtain⟨k,hk,rfl,hno,hbel⟩:=hrel;by_cases hlt:k<N
  ·have hlt2:(k:Int)<(N:Int):=by omega
   by_cases h1:1<k
   ·have h1b:(1:Int)<(k:Int):=by omega
    have HG1:=hid (HG.out k (by omega) wr);by_cases hg:Nat.gcd k N=1
    ·rw[hg] at HG1;have HAP:=hid ((Spo.apart_gcd (n:=k) (m:=N) (by omega)).2 hg);clear hg HG;go_wp2_with fail;refine HG1.out.mono ?_;rintro e w1 ⟨rfl,hb1⟩;have HB1:Hid (Below w.heap.size w w1):=hbel.out.trans (hb1.mono hbel.out.size);clear hb1;go_wp2_with fail;go_ret;obtain⟨e1,e2⟩:=HQ.out;exact⟨k,rfl,⟨by omega,by rw[<- e1];exact HAP.out,fun m h2 h3=>by rw[<- e1];exact hno.out m h2 h3⟩,by omega,HB1.out⟩
    ·have hgb:((Nat.gcd k N:Int)==1)=false:=by rw[beq_eq_false_iff_ne];omega
     have HNO:Hid (∀ m,2<=m->m<k+1->¬ Spo.Apart m N):=fun m h2 h3=>by
      by_cases e:m=k
      ·subst e;exact fun h=>hg ((Spo.apart_gcd (by omega)).1 h)
      ·exact hno.out m h2 (by omega)
     clear hg HG hno;generalize Nat.gcd k N=g at *;go_wp2_with fail;refine HG1.out.mono ?_;rintro e w1 ⟨rfl,hb1⟩;have HB1:Hid (Below w.heap.size w w1):=hbel.out.trans (hb1.mono hbel.out.size);clear hb1;go_wp2_with fail;go_roundw
     case rel=>exact⟨k+1,by omega,by go_num,HNO,HB1⟩
     case measure=>simp[intOf];omega
   ·have h1b:¬ (1:Int)<(k:Int):=by omega
    have HNO:Hid (∀ m,2<=m->m<k+1->¬ Spo.Apart m N):=fun m h2 h3=>by omega
    clear HG hno;go_wp2_with fail;go_roundw
    case rel=>exact⟨k+1,by omega,by go_num,HNO,hbel⟩
    case measure=>simp[intOf];omega
  ·obtain⟨e1,e2⟩:=HQ.out;have h:=Spo.pow_some e2;rw[<- e1] at h;exact absurd h (hno.out (q-2) (by omega) (by omega))
theorem Wg (q n:Nat) (w:World) (h5:5<=q) (hm:q<=2147483647) (hp:Spo.PowIs q n) (hnq:n<q) :
  Calls Tryz.prog 46 #[.int .i64 n,.int .i64 ((q:Int)-1)] w fun e w'=>∃ d:Nat,e=.returned (.int .i64 d)/\d*n % (q-1)=1/\1<=d/\d<q/\w'=w:=by
 obtain⟨N,hN⟩:∃ N:Nat,N=q-1:=⟨_,rfl⟩
 have hN1:(q:Int)-1=(N:Int):=by omega
 rw[hN1];have hn2:=hp.1
 -- some k below n serves
 have HEX:Hid (∃ k,k<n/\(k*N+1) % n=0):=by
  have hg:Nat.gcd N n=1:=by rw[Nat.gcd_comm,hN];exact (Spo.apart_gcd (by omega)).1 hp.2.1
  obtain⟨d,hd⟩:=aBF hn2 hg
  -- N*d=1 mod n,so k=(n-1)*d mod n
  refine⟨(n-1)*d % n,Nat.mod_lt _ (by omega),?_⟩
  have e1:((n-1)*d % n*N+1) % n=((n-1)*(N*d % n)+1) % n:=by
   rw[Nat.add_mod,Nat.mul_mod,Nat.mod_mod,<- Nat.mul_mod,<- Nat.add_mod];rw[Nat.add_mod ((n-1)*(N*d % n)),Nat.mul_mod (n-1) (N*d % n),Nat.mod_mod,<- Nat.mul_mod,<- Nat.add_mod]
   congr 2
   rw[Nat.mul_assoc,Nat.mul_comm d N]
  rw[e1,hd,Nat.mul_one,show n-1+1=n from by omega,Nat.mod_self]
 have HQ:Hid (N=q-1/\5<=q/\n<q):=⟨hN,h5,hnq⟩
 have hNm:N<=2147483647:=by omega
 have hnm:n<=2147483647:=by omega
 have hn0:¬ (n:Int)=0:=by omega
 clear hN hN1 h5 hm hp hnq;go_enter Tryz.func46,Tryz.ntmps46;go_wp2_with fail;go_loop [7] (fun iv=>∃ k:Nat,k<=n/\iv=.int .i64 k/\Hid (∀ m,m<k->¬ (m*N+1) % n=0)) (fun iv=>n-(intOf iv).toNat)
 case atStart=>exact⟨0,Nat.zero_le _,rfl,fun m h=>by omega⟩
 case round =>
  obtain⟨k,hk,rfl,hno⟩:=hrel;by_cases hlt:k<n
  ·have hlt2:(k:Int)<(n:Int):=by omega
   have hkN:k*N<=2147483647*2147483647:=Nat.mul_le_mul (by omega) hNm;obtain⟨T,hT⟩:∃ T:Nat,T=k*N:=⟨_,rfl⟩
   have hTi:(k:Int)*(N:Int)=(T:Int):=by rw[hT];simp
   rw[<- hT] at hkN;have hw2:IntKind.i64.wrap ((T:Int)+1)=(T:Int)+1:=by rw[IntKind.wrap_i64];omega
   have hmod:Int.tmod ((T:Int)+1) (n:Int)=(((T+1) % n:Nat):Int):=by rw[Int.tmod_eq_emod_of_nonneg (by omega)];simp
   have hdiv:Int.tdiv ((T:Int)+1) (n:Int)=(((T+1) / n:Nat):Int):=by rw[Int.tdiv_eq_ediv_of_nonneg (by omega)];simp
   by_cases h0:(T+1) % n=0
   ·have hb0:((((T+1) % n:Nat):Int)==0)=true:=by rw[h0];rfl
    have hdle:(T+1) / n<=T+1:=Nat.div_le_self _ _;have HD:Hid ((T+1) / n*n=T+1):=Nat.div_mul_cancel (Nat.dvd_of_mod_eq_zero h0);have HTT:=hid hT;clear h0 hT;generalize (T+1) / n=D at *;have hw3:IntKind.i64.wrap (D:Int)=(D:Int):=by rw[IntKind.wrap_i64];omega
    generalize (T+1) % n=M at *;go_wp2_with fail;go_ret;obtain⟨e1,e2,e3⟩:=HQ.out;have e4:=HD.out;have e5:=HTT.out;refine⟨D,by first | rfl | simp,?_,?_,?_,rfl⟩
    ·rw[e4,e5,e1,Nat.mul_comm k,Nat.mul_add_mod];exact Nat.mod_eq_of_lt (by omega)
    ·rcases Nat.eq_zero_or_pos D with g | g
     ·rw[g] at e4;omega
     ·exact g
    ·-- D*n=k*N+1 with k<n: D<=N
     refine Nat.lt_of_not_le (fun hge=>?_);have h1:q*n<=D*n:=Nat.mul_le_mul_right n hge;have h2:k*N<=(n-1)*N:=Nat.mul_le_mul_right N (by omega);have h3:(n-1)*N+N=n*N:=by rw[Nat.sub_mul,Nat.one_mul];exact Nat.sub_add_cancel (Nat.le_mul_of_pos_left N (by omega))
     have h4:q*n=n*N+n:=by rw[show q=N+1 from by omega,Nat.add_mul,Nat.one_mul,Nat.mul_comm]
     omega
   ·have hb0:((((T+1) % n:Nat):Int)==0)=false:=by rw[beq_eq_false_iff_ne];omega
    have HNO:Hid (∀ m,m<k+1->¬ (m*N+1) % n=0):=fun m h=>by
     by_cases e:m=k
     ·subst e;rw[<- hT];exact h0
     ·exact hno.out m (by omega)
    clear h0 hT hno;generalize (T+1) % n=M at *;go_wp2_with fail
    go_round
    case rel=>exact⟨k+1,by omega,by go_num,HNO⟩
    case measure=>simp[intOf];omega
  ·obtain⟨m,h1,h2⟩:=HEX.out;exact absurd h2 (hno.out m (by omega))
theorem aDV (p b:Nat) (x y:Int) (w:World) (hpr:Num.Prime p) (h3:3<=p) (hm:p<=2147483647) (hp:w.cell? ⟨b,0,none⟩=some (.int .i64 p))
  (hx:-9223372036854775808<=x) (hx2:x<=9223372036854775807) (hy:-9223372036854775808<=y) (hy2:y<=9223372036854775807) :
  Calls Tryz.prog 96 #[.pointer (some ⟨b,0,none⟩),.int .i64 x,.int .i64 y] w fun e w'=>e=.returned (.int .i64 (x*(yX p y:Int) % p))/\w'=w:=by
 have hl:=Fr p y h3;have hi:=hid (Pi p b y w h3 hm hp hy hy2);rw[Pk p y hpr h3] at hi;have hmu:=hid (kK p b x (yX p y) w h3 hm hp hx hx2 (by omega) (by omega));generalize yX p y=t at *;clear hpr;go_enter Tryz.func96,Tryz.ntmps96;go_wp2_with fail;refine hi.out.mono ?_;rintro e w' ⟨rfl,rfl⟩;go_wp2_with fail;refine hmu.out.mono ?_;rintro e w' ⟨rfl,rfl⟩;go_wp2_with fail;go_ret;exact⟨rfl,rfl⟩
def mtr (q:Nat) (t:Nat):Int:=(yX q ((t / 8+t % 8+8:Nat):Int):Int)
def ctr (q:Nat) (t:Nat):Int:=cst q ((t / 8:Nat):Int) ((t % 8:Nat):Int)
theorem aBL (q i j:Nat) (hj:j<8):mtr q (i*8+j)=(yX q ((i+j+8:Nat):Int):Int):=by
 unfold mtr;rw[show (i*8+j) / 8=i from by omega,show (i*8+j) % 8=j from by omega]
theorem aBM (q i j:Nat) (hj:j<8):ctr q (i*8+j)=cst q i j:=by
 unfold ctr;rw[show (i*8+j) / 8=i from by omega,show (i*8+j) % 8=j from by omega]
theorem aBN (p b:Nat) (a:Int) (w:World) (hpr:Num.Prime p) (h3:3<=p) (hm:p<=2147483647) (hp:w.cell? ⟨b,0,none⟩=some (.int .i64 p)) (ha:-9223372036854775808<=a) (ha2:a<=9223372036854775807) :
  Calls Tryz.prog 95 #[.pointer (some ⟨b,0,none⟩),.int .i64 a] w fun e w'=>e=.returned (.int .i64 (yX p a))/\w'=w:=by
 have h:=Pi p b a w h3 hm hp ha ha2
 rwa [Pk p a hpr h3] at h
theorem Py (q b:Nat) (w:World) (hpr:Num.Prime q) (h3:3<=q) (hm:q<=2147483647) (hp:w.cell? ⟨b,0,none⟩=some (.int .i64 q)) :
  Calls Tryz.prog 47 #[.pointer (some ⟨b,0,none⟩)] w fun e w'=>e=.returned (.agg (an 64 (mtr q)))/\Below w.heap.size w w':=by
 have hmx:Tryz.prog.follows .mixedOrders=true:=by kernel_rfl
 have HPR:=hid hpr;have HP:=hid hp;have hbl:=qK hp;clear hpr hp;go_enter Tryz.func47,Tryz.ntmps47;go_wp2_with fail
 go_loopw [5] (fun iv wr=>∃ k:Nat,k<=8/\iv=.int .i64 k/\Hid (Hid (ArrI wr w.heap.size 68 64 (fll (mtr q) (fun _=>0) (k*8)))/\Hid (Below w.heap.size w wr)))
  (fun iv _=>8-(intOf iv).toNat)
 case atStart =>
  refine⟨0,by omega,rfl,?_,(Below.refl _ _).alloc (Nat.le_refl _) _⟩;rw[Nat.zero_mul,jJ];exact ArrI.new w 64 68 (fun _=>0)
 case round =>
  obtain⟨k,hk,rfl,HC⟩:=hrel;by_cases hlt:k<8
  ·have hlt2:(k:Int)<8:=by omega
   have hks:IntKind.i64.wrap ((k:Int)+1)=(k:Int)+1:=by rw[IntKind.wrap_i64];omega
   go_wp2_with fail;obtain⟨wo,rfl⟩:=exE (wr)
   go_loopw [8] (fun jv wr=>∃ j:Nat,j<=8/\jv=.int .i64 j/\Hid (Hid (ArrI wr w.heap.size 68 64 (fll (mtr q) (fun _=>0) (k*8+j)))/\Hid (Below w.heap.size w wr)))
    (fun jv _=>8-(intOf jv).toNat)
   case atStart=>exact⟨0,by omega,rfl,HC⟩
   case round =>
    obtain⟨j,hj,rfl,hC⟩:=hrel;obtain⟨hA,hbel⟩:=hC.out;by_cases hjl:j<8
    ·have hjl2:(j:Int)<8:=by omega
     have c1:=hA.out.cell (i:=k*8+j) (by omega);have y1:=hA.out.frozen (k*8+j);have hkj:IntKind.i64.wrap ((j:Int)+1)=(j:Int)+1:=by rw[IntKind.wrap_i64];omega
     have hw1:IntKind.i64.wrap ((k:Int)+(j:Int))=(k:Int)+(j:Int):=by rw[IntKind.wrap_i64];omega
     have hw2:IntKind.i64.wrap ((k:Int)+(j:Int)+8)=(k:Int)+(j:Int)+8:=by rw[IntKind.wrap_i64];omega
     have HE:Hid (Hid (ArrI (wr.setCell ⟨w.heap.size,k*8+j,none⟩ (.int .i64 (mtr q (k*8+j)))).drew w.heap.size 68 64 (fll (mtr q) (fun _=>0) (k*8+(j+1))))/\Hid (Below w.heap.size w (wr.setCell ⟨w.heap.size,k*8+j,none⟩ (.int .i64 (mtr q (k*8+j)))).drew)) :=
      ⟨hA.out.next,(hbel.out.setCell (p:=⟨w.heap.size,k*8+j,none⟩) (by simp) _).drew⟩
     have HMx:=hid (aBN q b ((k:Int)+(j:Int)+8) wr.drew HPR.out h3 hm ((hbel.out.cell (p:=⟨b,0,none⟩) hbl).trans HP.out) (by omega) (by omega));rw[show ((yX q ((k:Int)+(j:Int)+8):Nat):Int)=mtr q (k*8+j) from by rw[aBL q k j hjl];push_cast;rfl] at HMx;clear hA hbel hC HC;generalize mtr q (k*8+j)=x at *;go_wp2_with fail;go_still_tail 9,hmx
     still_call HMx.out
     repeat still_step
     refine wpStill_nil ?_;go_wp2_with fail;go_roundw
     case rel=>exact⟨j+1,by omega,by go_num,HE⟩
     case measure=>simp[intOf];omega
    ·obtain rfl:j=8:=by omega
     have HE:Hid (Hid (ArrI wr w.heap.size 68 64 (fll (mtr q) (fun _=>0) ((k+1)*8)))/\Hid (Below w.heap.size w wr)):=by rw[Nat.add_mul,Nat.one_mul];exact⟨hA,hbel⟩
     clear hA hbel hC HC;go_wp2_with fail;go_roundw
     case rel=>exact⟨k+1,by omega,by go_num,HE⟩
     case measure=>simp[intOf];omega
  ·obtain rfl:k=8:=by omega
   obtain⟨hA,hbel⟩:=HC.out;have HA8:Hid (ArrI wr w.heap.size 68 64 (mtr q)):=hA.out.congr (fun j hj=>zV hj);clear hA HC
   go_wp2_with (first
    | (refine jU rfl 68 _ rfl _ rfl _ _ _ _ _ HA8.out Tryz.underlying68 (by kernel_rfl) ?_)
    | (refine jX rfl 68 _ _ rfl _ _ _ _ rfl rfl _ HA8.out (by kernel_rfl) ?_))
   refine bodyPost_ret (xQ rfl _ _ w.heap.size 68 64 _ _ (mtr q) rfl (HA8.out.setRow _) Tryz.underlying68 (by kernel_rfl)) rfl ?_;exact⟨rfl,below_setRow hbel.out (Nat.le_refl _) _⟩
theorem Jm (q b:Nat) (w:World) (hpr:Num.Prime q) (h3:3<=q) (hm:q<=2147483647) (hp:w.cell? ⟨b,0,none⟩=some (.int .i64 q)) :
  Calls Tryz.prog 49 #[.pointer (some ⟨b,0,none⟩)] w fun e w'=>e=.returned (.agg (an 64 (ctr q)))/\Below w.heap.size w w':=by
 have hmx:Tryz.prog.follows .mixedOrders=true:=by kernel_rfl
 have HPR:=hid hpr;have HP:=hid hp;have hbl:=qK hp;clear hpr hp;go_enter Tryz.func49,Tryz.ntmps49;go_wp2_with fail
 go_loopw [5] (fun iv wr=>∃ k:Nat,k<=8/\iv=.int .i64 k/\Hid (Hid (ArrI wr w.heap.size 68 64 (fll (ctr q) (fun _=>0) (k*8)))/\Hid (Below w.heap.size w wr)))
  (fun iv _=>8-(intOf iv).toNat)
 case atStart =>
  refine⟨0,by omega,rfl,?_,(Below.refl _ _).alloc (Nat.le_refl _) _⟩;rw[Nat.zero_mul,jJ];exact ArrI.new w 64 68 (fun _=>0)
 case round =>
  obtain⟨k,hk,rfl,HC⟩:=hrel;by_cases hlt:k<8
  ·have hlt2:(k:Int)<8:=by omega
   have hks:IntKind.i64.wrap ((k:Int)+1)=(k:Int)+1:=by rw[IntKind.wrap_i64];omega
   go_wp2_with fail;obtain⟨wo,rfl⟩:=exE (wr)
   go_loopw [8] (fun jv wr=>∃ j:Nat,j<=8/\jv=.int .i64 j/\Hid (Hid (ArrI wr w.heap.size 68 64 (fll (ctr q) (fun _=>0) (k*8+j)))/\Hid (Below w.heap.size w wr)))
    (fun jv _=>8-(intOf jv).toNat)
   case atStart=>exact⟨0,by omega,rfl,HC⟩
   case round =>
    obtain⟨j,hj,rfl,hC⟩:=hrel;obtain⟨hA,hbel⟩:=hC.out;by_cases hjl:j<8
    ·have hjl2:(j:Int)<8:=by omega
     have c1:=hA.out.cell (i:=k*8+j) (by omega);have y1:=hA.out.frozen (k*8+j);have hkj:IntKind.i64.wrap ((j:Int)+1)=(j:Int)+1:=by rw[IntKind.wrap_i64];omega
     have hw0:IntKind.i64.wrap (8*(k:Int))=8*(k:Int):=by rw[IntKind.wrap_i64];omega
     have hw1:IntKind.i64.wrap (8*(k:Int)+(j:Int))=8*(k:Int)+(j:Int):=by rw[IntKind.wrap_i64];omega
     have hw2:IntKind.i64.wrap (8*(k:Int)+(j:Int)+1)=8*(k:Int)+(j:Int)+1:=by rw[IntKind.wrap_i64];omega
     have HE:Hid (Hid (ArrI (wr.setCell ⟨w.heap.size,k*8+j,none⟩ (.int .i64 (ctr q (k*8+j)))).drew w.heap.size 68 64 (fll (ctr q) (fun _=>0) (k*8+(j+1))))/\Hid (Below w.heap.size w (wr.setCell ⟨w.heap.size,k*8+j,none⟩ (.int .i64 (ctr q (k*8+j)))).drew)) :=
      ⟨hA.out.next,(hbel.out.setCell (p:=⟨w.heap.size,k*8+j,none⟩) (by simp) _).drew⟩
     have hpw:=(hbel.out.cell (p:=⟨b,0,none⟩) hbl).trans HP.out;have HMx:=hid (Ei q b (8*(k:Int)+(j:Int)+1) 5 wr.drew h3 hm hpw (by omega) (by omega) (by omega) (by omega));have HPW:Hid (((Bg q (8*(k:Int)+(j:Int)+1) 5:Nat):Int)=(8*(k:Int)+(j:Int)+1) ^ 5 % (q:Int)):=Sn q 5 _ HPR.out h3 (by omega);rw[HPW.out] at HMx;have hb4:=qQ ((8*(k:Int)+(j:Int)+1) ^ 5) q h3;have HMy:=hid (yV q b ((8*(k:Int)+(j:Int)+1) ^ 5 % (q:Int)) 3 wr.drew h3 hm hpw (by omega) (by omega) (by omega) (by omega))
     rw[show ((8*(k:Int)+(j:Int)+1) ^ 5 % (q:Int)+3) % (q:Int)=ctr q (k*8+j) from by
      rw[aBM q k j hjl,Int.emod_add_emod];unfold cst;rw[if_neg (by omega)]] at HMy
     clear hA hbel hC HC hpw HPW hb4;generalize ctr q (k*8+j)=x at *;generalize (8*(k:Int)+(j:Int)+1) ^ 5 % (q:Int)=y at *;go_wp2_with fail;go_still_tail 12,hmx
     still_call HMx.out
     repeat still_step
     still_call HMy.out
     repeat still_step
     refine wpStill_nil ?_;go_wp2_with fail;go_roundw
     case rel=>exact⟨j+1,by omega,by go_num,HE⟩
     case measure=>simp[intOf];omega
    ·obtain rfl:j=8:=by omega
     have HE:Hid (Hid (ArrI wr w.heap.size 68 64 (fll (ctr q) (fun _=>0) ((k+1)*8)))/\Hid (Below w.heap.size w wr)):=by rw[Nat.add_mul,Nat.one_mul];exact⟨hA,hbel⟩
     clear hA hbel hC HC;go_wp2_with fail;go_roundw
     case rel=>exact⟨k+1,by omega,by go_num,HE⟩
     case measure=>simp[intOf];omega
  ·obtain rfl:k=8:=by omega
   obtain⟨hA,hbel⟩:=HC.out;have HA8:Hid (ArrI wr w.heap.size 68 64 (ctr q)):=hA.out.congr (fun j hj=>zV hj);clear hA HC
   go_wp2_with (first
    | (refine jU rfl 68 _ rfl _ rfl _ _ _ _ _ HA8.out Tryz.underlying68 (by kernel_rfl) ?_)
    | (refine jX rfl 68 _ _ rfl _ _ _ _ rfl rfl _ HA8.out (by kernel_rfl) ?_))
   refine bodyPost_ret (xQ rfl _ _ w.heap.size 68 64 _ _ (ctr q) rfl (HA8.out.setRow _) Tryz.underlying68 (by kernel_rfl)) rfl ?_;exact⟨rfl,below_setRow hbel.out (Nat.le_refl _) _⟩
theorem Nn (q b:Nat) (w:World) (hpr:Num.Prime q) (h3:3<=q) (hm:q<=2147483647) (hp:w.cell? ⟨b,0,none⟩=some (.int .i64 q)) :
  Calls Tryz.prog 48 #[.pointer (some ⟨b,0,none⟩)] w fun e w'=>e=.returned (.agg (an 8 (wt q)))/\Below w.heap.size w w':=by
 have HPR:=hid hpr;have HP:=hid hp;have hbl:=qK hp;clear hpr hp;go_enter Tryz.func48,Tryz.ntmps48;go_wp2_with fail
 go_loopw [7] (fun iv wr=>∃ i:Nat,i<=8/\iv=.int .i64 i/\Hid (Hid (ArrI wr w.heap.size 67 8 (fll (wt q) (fun _=>0) i))/\Hid (Below w.heap.size w wr)))
  (fun iv _=>8-(intOf iv).toNat)
 case atStart =>
  refine⟨0,by omega,rfl,?_,(Below.refl _ _).alloc (Nat.le_refl _) _⟩;rw[jJ];exact ArrI.new w 8 67 (fun _=>0)
 case round =>
  obtain⟨i,hi,rfl,HC⟩:=hrel;by_cases hlt:i<8
  ·have hlt2:(i:Int)<8:=by omega
   have hks:IntKind.i64.wrap ((i:Int)+1)=(i:Int)+1:=by rw[IntKind.wrap_i64];omega
   go_wp2_with fail;obtain⟨wo,rfl⟩:=exE (wr)
   go_loopw [4,5,10] (fun av bv jv wr=>∃ j:Nat,j<=8/\jv=.int .i64 j/\av=.int .i64 (Spo.pab i j % (q:Int))/\bv=.int .i64 (Spo.pbe i j % (q:Int))/\wr=wo)
    (fun _ _ jv _=>8-(intOf jv).toNat)
   case atStart=>exact⟨0,by omega,rfl,by rw[show Spo.pab i 0 % (q:Int)=1 from Int.emod_eq_of_lt (by show (0:Int)<=1;decide) (by show (1:Int)<_;omega)],by rw[show Spo.pbe i 0 % (q:Int)=1 from Int.emod_eq_of_lt (by show (0:Int)<=1;decide) (by show (1:Int)<_;omega)],rfl⟩
   case round =>
    obtain⟨j,hj,rfl,rfl,rfl,rfl⟩:=hrel;obtain⟨hA,hbel⟩:=HC.out;have hpw:Hid (wr.cell? ⟨b,0,none⟩=some (.int .i64 q)):=(hbel.out.cell (p:=⟨b,0,none⟩) hbl).trans HP.out;by_cases hjl:j<8
    ·have hjl2:(j:Int)<8:=by omega
     have hkj:IntKind.i64.wrap ((j:Int)+1)=(j:Int)+1:=by rw[IntKind.wrap_i64];omega
     have hw1:IntKind.i64.wrap ((i:Int)+(j:Int))=(i:Int)+(j:Int):=by rw[IntKind.wrap_i64];omega
     have hw2:IntKind.i64.wrap ((i:Int)+(j:Int)+8)=(i:Int)+(j:Int)+8:=by rw[IntKind.wrap_i64];omega
     have hw3:IntKind.i64.wrap ((i:Int)-(j:Int))=(i:Int)-(j:Int):=by rw[IntKind.wrap_i64];omega
     have hb1:=qQ (Spo.pab i j) q h3;have hb2:=qQ (Spo.pbe i j) q h3;have HMx:=hid (kK q b (Spo.pab i j % (q:Int)) ((i:Int)+(j:Int)+8) wr h3 hm hpw.out (by omega) (by omega) (by omega) (by omega));rw[show Spo.pab i j % (q:Int)*((i:Int)+(j:Int)+8) % (q:Int)=Spo.pab i (j+1) % (q:Int) from by rw[Int.mul_emod,Int.emod_emod_of_dvd _ (Int.dvd_refl _),<- Int.mul_emod];rfl] at HMx;by_cases hji:j=i
     ·have hne:((j:Int) != (i:Int))=false:=by rw[hji];simp
      have HPB:Hid (Spo.pbe i j % (q:Int)=Spo.pbe i (j+1) % (q:Int)):=by show _=(if j=i then _ else _) % (q:Int);rw[if_pos hji]
      clear hji hA hbel;go_wp2_with fail;refine HMx.out.mono ?_;rintro e w1 ⟨rfl,rfl⟩;go_wp2_with fail;go_roundw
      case rel=>exact⟨j+1,by omega,by go_num,rfl,by rw[HPB.out],by first | rfl | trivial⟩
      case measure=>simp[intOf];omega
     ·have hne:((j:Int) != (i:Int))=true:=by rw[bne_iff_ne];omega
      have HMy:=hid (kK q b (Spo.pbe i j % (q:Int)) ((i:Int)-(j:Int)) wr h3 hm hpw.out (by omega) (by omega) (by omega) (by omega))
      rw[show Spo.pbe i j % (q:Int)*((i:Int)-(j:Int)) % (q:Int)=Spo.pbe i (j+1) % (q:Int) from by
       show _=(if j=i then _ else _) % (q:Int)
       rw[if_neg hji,Int.mul_emod,Int.emod_emod_of_dvd _ (Int.dvd_refl _),<- Int.mul_emod]] at HMy
      clear hji hA hbel;go_wp2_with fail;refine HMx.out.mono ?_;rintro e w1 ⟨rfl,rfl⟩;go_wp2_with fail;refine HMy.out.mono ?_;rintro e w1 ⟨rfl,rfl⟩;go_wp2_with fail;go_roundw
      case rel=>exact⟨j+1,by omega,by go_num,rfl,rfl,by first | rfl | trivial⟩
      case measure=>simp[intOf];omega
    ·obtain rfl:j=8:=by omega
     have c1:=hA.out.cell hlt;have y1:=hA.out.frozen i;have hb1:=qQ (Spo.pab i 8) q h3;have hb2:=qQ (Spo.pbe i 8) q h3;have HMx:=hid (aDV q b (Spo.pab i 8 % (q:Int)) (Spo.pbe i 8 % (q:Int)) wr HPR.out h3 hm hpw.out (by omega) (by omega) (by omega) (by omega));rw[show Spo.pab i 8 % (q:Int)*(yX q (Spo.pbe i 8 % (q:Int)):Int) % (q:Int)=wt q i from rfl] at HMx
     have HE:Hid (Hid (ArrI (wr.setCell ⟨w.heap.size,i,none⟩ (.int .i64 (wt q i))) w.heap.size 67 8 (fll (wt q) (fun _=>0) (i+1)))/\Hid (Below w.heap.size w (wr.setCell ⟨w.heap.size,i,none⟩ (.int .i64 (wt q i))))) :=
      ⟨hA.out.next,hbel.out.setCell (p:=⟨w.heap.size,i,none⟩) (by simp) _⟩
     clear hA hbel HC hb1 hb2;generalize wt q i=x at *;generalize Spo.pab i 8 % (q:Int)=y at *;generalize Spo.pbe i 8 % (q:Int)=z at *;go_wp2_with fail;refine HMx.out.mono ?_;rintro e w1 ⟨rfl,rfl⟩;go_wp2_with fail;go_roundw
     case rel=>exact⟨i+1,by omega,by go_num,HE⟩
     case measure=>simp[intOf];omega
  ·obtain rfl:i=8:=by omega
   obtain⟨hA,hbel⟩:=HC.out;have HA8:Hid (ArrI wr w.heap.size 67 8 (wt q)):=hA.out.congr (fun j hj=>zV hj);clear hA HC
   go_wp2_with (first
    | (refine jU rfl 67 _ rfl _ rfl _ _ _ _ _ HA8.out Tryz.underlying67 (by kernel_rfl) ?_)
    | (refine jX rfl 67 _ _ rfl _ _ _ _ rfl rfl _ HA8.out (by kernel_rfl) ?_))
   refine bodyPost_ret (xQ rfl _ _ w.heap.size 67 8 _ _ (wt q) rfl (HA8.out.setRow _) Tryz.underlying67 (by kernel_rfl)) rfl ?_;exact⟨rfl,below_setRow hbel.out (Nat.le_refl _) _⟩
theorem Sp (off i:Nat):∀ (l:List Value) (k:Nat) (cells:Array Value),((l.zipIdx k).foldl (fun cs (p:Value × Nat)=>cs.setIfInBounds (off+p.2) p.1) cells)[i]?=if off+k<=i/\i<off+k+l.length/\i<cells.size then l[i-off-k]? else cells[i]?
 | [],k,cells=>by
  rw[if_neg (by simp;omega)];rfl
 | v :: t,k,cells=>by
  rw[List.zipIdx_cons,List.foldl_cons,Sp off i t (k+1)];simp only[Array.size_setIfInBounds,List.length_cons];by_cases h1:off+(k+1)<=i/\i<off+(k+1)+t.length/\i<cells.size
  ·rw[if_pos h1,if_pos (by omega),show i-off-k=(i-off-(k+1))+1 from by omega,List.getElem?_cons_succ]
  ·rw[if_neg h1];by_cases h2:i=off+k
   ·subst h2;by_cases h3:off+k<cells.size
    ·rw[if_pos (by omega),show off+k-off-k=0 from by omega,Array.getElem?_setIfInBounds_self];simp[h3]
    ·rw[if_neg (by omega),Array.getElem?_eq_none (by simp;omega),Array.getElem?_eq_none (by omega)]
   ·rw[if_neg (by omega),Array.getElem?_setIfInBounds_ne (by omega)]
def jV (off:Nat) (vs cells:Array Value):Array Value:=vs.zipIdx.foldl (fun cs (c,j)=>cs.setIfInBounds (off+j) c) cells
theorem xK (off i:Nat) (vs cells:Array Value) (h:off+vs.size<=cells.size):(jV off vs cells)[i]?=if off<=i/\i<off+vs.size then vs[i-off]? else cells[i]?:=by
 have e:=Sp off i vs.toList 0 cells
 have e2:jV off vs cells=(vs.toList.zipIdx 0).foldl (fun cs (p:Value × Nat)=>cs.setIfInBounds (off+p.2) p.1) cells:=by unfold jV;rw[<- Array.foldl_toList,Array.toList_zipIdx]
 rw[e2,e];simp only[Nat.add_zero,Nat.sub_zero,Array.length_toList,Array.getElem?_toList];by_cases h1:off<=i/\i<off+vs.size
 ·rw[if_pos h1,if_pos (by omega)]
 ·rw[if_neg h1,if_neg (by omega)]
theorem Bp (off:Nat) (vs cells:Array Value) (h:off+vs.size<=cells.size):(jV off vs cells).size=cells.size:=by
 rcases Nat.lt_trichotomy (jV off vs cells).size cells.size with g | g | g
 ·have h1:=xK off (jV off vs cells).size vs cells h;rw[Array.getElem?_eq_none (Nat.le_refl _)] at h1;split at h1
  ·rw[Array.getElem?_eq_getElem (by omega)] at h1;exact absurd h1 (by simp)
  ·rw[Array.getElem?_eq_getElem g] at h1;exact absurd h1 (by simp)
 ·exact g
 ·have h1:=xK off cells.size vs cells h;rw[Array.getElem?_eq_getElem g,if_neg (by omega),Array.getElem?_eq_none (Nat.le_refl _)] at h1;exact absurd h1 (by simp)
theorem Cn{place:Nat->Option (Nat × Nat)}{cells:Array Value}{i off size:Nat}{v:Value}{rest:List (Nat × Value)} (hp:place i=some (off,size)) (hv:v.cells.size=size) (hs:off+size<=cells.size) :
  Instr.fill place cells ((i,v) :: rest)=Instr.fill place (jV off v.cells cells) rest:=by
 subst hv;simp only[Instr.fill,hp];rw[if_neg (by simp;omega)];rfl
theorem Lf{P:Program}{ops:Array Oper}{rest:List Oper}{o:Oper}{a:Act}{Q:Exit->Act->World->Prop} (hg:o.guard=none) (t:TypeId) (l:List (Nat × Operand)) (ho:o.op=.build t l.toArray) (R:Array Value)
  (vs:List (Nat × Value)) (hv:l.map (fun p=>(p.1,a.eval p.2))=vs) (hf:P.built t vs=some R) (h:wpList P ops Q rest (a.put o.dst (.agg R)) w):wpList P ops Q (o :: rest) a w:=by
 have e:(l.toArray.map fun (i,x)=>(i,a.eval x)).toList=vs:=by rw[<- hv];simp
 exact wpList_build hg t l.toArray ho (by rw[e,hf];rfl) (by rw[e,hf];exact h)
def spl:Array (Nat × Nat):=#[(0,1),(1,1),(2,1),(3,64),(67,8),(75,64)]
noncomputable def spz:Array Value:=match Tryz.prog.info? 70 with
 | some i=>match i.zero with
  | some z=>z.cells
  | none=>#[]
 | none=>#[]
theorem aBO:Array.size spz=139:=by kernel_rfl
theorem aBP (parts:List (Nat × Value)):Tryz.prog.built 70 parts=Instr.fill (spl[·]?) spz parts:=by kernel_rfl
def SpgC (R:Array Value) (q b n d:Nat):Prop:=R.size=139/\R[0]?=some (.pointer (some ⟨b,0,none⟩))/\R[1]?=some (.int .i64 n)/\R[2]?=some (.int .i64 d)/\(∀ t,t<64->R[3+t]?=some (.int .i64 (mtr q t))) /\
 (∀ t,t<8->R[67+t]?=some (.int .i64 (wt q t)))/\(∀ t,t<64->R[75+t]?=some (.int .i64 (ctr q t)))
theorem aBQ (q b n d:Nat):∃ R,Tryz.prog.built 70 [(0,.pointer (some ⟨b,0,none⟩)),(1,.int .i64 n),(2,.int .i64 d),(3,.agg (an 64 (mtr q))),(4,.agg (an 8 (wt q))),(5,.agg (an 64 (ctr q)))]=some R/\SpgC R q b n d:=by
 rw[aBP];have a1:(Value.agg (an 64 (mtr q))).cells=an 64 (mtr q):=rfl;have a2:(Value.agg (an 8 (wt q))).cells=an 8 (wt q):=rfl;have a3:(Value.agg (an 64 (ctr q))).cells=an 64 (ctr q):=rfl;have c1:(Value.pointer (some ⟨b,0,none⟩)).cells=#[Value.pointer (some ⟨b,0,none⟩)]:=rfl;have c2:(Value.int .i64 (n:Int)).cells=#[Value.int .i64 (n:Int)]:=rfl;have c3:(Value.int .i64 (d:Int)).cells=#[Value.int .i64 (d:Int)]:=rfl;have s0:=aBO;rw[Cn (off:=0) (size:=1) rfl (by rw[c1];rfl) (by omega),c1];have s1:=Bp 0 #[Value.pointer (some ⟨b,0,none⟩)] spz (by simp;omega);rw[Cn (off:=1) (size:=1) rfl (by rw[c2];rfl) (by omega),c2];have s2:=Bp 1 #[Value.int .i64 (n:Int)] (jV 0 #[Value.pointer (some ⟨b,0,none⟩)] spz) (by simp;omega);rw[Cn (off:=2) (size:=1) rfl (by rw[c3];rfl) (by omega),c3];have s3:=Bp 2 #[Value.int .i64 (d:Int)] (jV 1 #[Value.int .i64 (n:Int)] (jV 0 #[Value.pointer (some ⟨b,0,none⟩)] spz)) (by simp;omega);rw[Cn (off:=3) (size:=64) rfl (by rw[a1,kV]) (by omega),a1];have s4:=Bp 3 (an 64 (mtr q)) (jV 2 #[Value.int .i64 (d:Int)] (jV 1 #[Value.int .i64 (n:Int)] (jV 0 #[Value.pointer (some ⟨b,0,none⟩)] spz))) (by rw[kV];omega);rw[Cn (off:=67) (size:=8) rfl (by rw[a2,kV]) (by omega),a2];have s5:=Bp 67 (an 8 (wt q)) (jV 3 (an 64 (mtr q)) (jV 2 #[Value.int .i64 (d:Int)] (jV 1 #[Value.int .i64 (n:Int)] (jV 0 #[Value.pointer (some ⟨b,0,none⟩)] spz)))) (by rw[kV];omega);rw[Cn (off:=75) (size:=64) rfl (by rw[a3,kV]) (by omega),a3];have s6:=Bp 75 (an 64 (ctr q)) (jV 67 (an 8 (wt q)) (jV 3 (an 64 (mtr q)) (jV 2 #[Value.int .i64 (d:Int)] (jV 1 #[Value.int .i64 (n:Int)] (jV 0 #[Value.pointer (some ⟨b,0,none⟩)] spz))))) (by rw[kV];omega)
 have g6:∀ i,i<75->(jV 75 (an 64 (ctr q)) (jV 67 (an 8 (wt q)) (jV 3 (an 64 (mtr q)) (jV 2 #[Value.int .i64 (d:Int)] (jV 1 #[Value.int .i64 (n:Int)] (jV 0 #[Value.pointer (some ⟨b,0,none⟩)] spz))))))[i]?=(jV 67 (an 8 (wt q)) (jV 3 (an 64 (mtr q)) (jV 2 #[Value.int .i64 (d:Int)] (jV 1 #[Value.int .i64 (n:Int)] (jV 0 #[Value.pointer (some ⟨b,0,none⟩)] spz)))))[i]?:=fun i hi=>by rw[xK _ _ _ _ (by rw[kV];omega),if_neg (by omega)]
 have g5:∀ i,i<67->(jV 67 (an 8 (wt q)) (jV 3 (an 64 (mtr q)) (jV 2 #[Value.int .i64 (d:Int)] (jV 1 #[Value.int .i64 (n:Int)] (jV 0 #[Value.pointer (some ⟨b,0,none⟩)] spz)))))[i]?=(jV 3 (an 64 (mtr q)) (jV 2 #[Value.int .i64 (d:Int)] (jV 1 #[Value.int .i64 (n:Int)] (jV 0 #[Value.pointer (some ⟨b,0,none⟩)] spz))))[i]?:=fun i hi=>by rw[xK _ _ _ _ (by rw[kV];omega),if_neg (by omega)]
 have g4:∀ i,i<3->(jV 3 (an 64 (mtr q)) (jV 2 #[Value.int .i64 (d:Int)] (jV 1 #[Value.int .i64 (n:Int)] (jV 0 #[Value.pointer (some ⟨b,0,none⟩)] spz))))[i]?=(jV 2 #[Value.int .i64 (d:Int)] (jV 1 #[Value.int .i64 (n:Int)] (jV 0 #[Value.pointer (some ⟨b,0,none⟩)] spz)))[i]?:=fun i hi=>by rw[xK _ _ _ _ (by rw[kV];omega),if_neg (by omega)]
 refine⟨_,rfl,by omega,?_,?_,?_,fun t ht=>?_,fun t ht=>?_,fun t ht=>?_⟩
 ·rw[g6 0 (by omega),g5 0 (by omega),g4 0 (by omega),xK _ _ _ _ (by simp;omega),if_neg (by simp),xK _ _ _ _ (by simp;omega),if_neg (by simp),xK _ _ _ _ (by simp;omega),if_pos (by simp)];rfl
 ·rw[g6 1 (by omega),g5 1 (by omega),g4 1 (by omega),xK _ _ _ _ (by simp;omega),if_neg (by simp),xK _ _ _ _ (by simp;omega),if_pos (by simp)];rfl
 ·rw[g6 2 (by omega),g5 2 (by omega),g4 2 (by omega),xK _ _ _ _ (by simp;omega),if_pos (by simp)];rfl
 ·rw[g6 _ (by omega),g5 _ (by omega),xK _ _ _ _ (by rw[kV];omega),if_pos (by rw[kV];omega),show 3+t-3=t from by omega,Od ht]
 ·rw[g6 _ (by omega),xK _ _ _ _ (by rw[kV];omega),if_pos (by rw[kV];omega),show 67+t-67=t from by omega,Od ht]
 ·rw[xK _ _ _ _ (by rw[kV];omega),if_pos (by rw[kV];omega),show 75+t-75=t from by omega,Od ht]
theorem SpgC.at{R:Array Value} (h:SpgC R q b n d) {w:World} {t:TypeId} (hw:w.heap[s]?=some (.cells R t (0,0))) (hp:w.cell? ⟨b,0,none⟩=some (.int .i64 q)):SpgAt w s b q n d:=by
 obtain⟨_,h1,h2,h3,h4,h5,h6⟩:=h;have hc:∀ i,w.cell? ⟨s,i,none⟩=R[i]?:=fun i=>cell_of_row w s i R t (0,0) hw;refine⟨by rw[hc,h1],by rw[hc,h2],by rw[hc,h3],fun i j hi hj=>?_,fun i hi=>by rw[hc,h5 i hi],fun r i hr hi=>?_,hp⟩
 ·rw[hc,Nat.add_assoc,h4 (i*8+j) (by omega),aBL q i j hj]
 ·rw[hc,Nat.add_assoc,h6 (r*8+i) (by omega),aBM q r i hi]
theorem aDW (q b:Nat) (w:World) (h3:3<=q) (hlt:q<23) (hp:w.cell? ⟨b,0,none⟩=some (.int .i64 q)) :
  Calls Tryz.prog 17 #[.pointer (some ⟨b,0,none⟩)] w fun e w'=>e=.returned (.tuple #[.pointer none,.iface 72 (.int .i64 3)])/\w'=w:=by
 have HP:=hid (Ny q b w hp);have hlt2:(q:Int)<23:=by omega
 go_enter Tryz.func17,Tryz.ntmps17;go_wp2_with fail;refine HP.out.mono ?_;rintro e w1 ⟨rfl,rfl⟩;go_wp2_with fail;go_ret2;exact⟨rfl,rfl⟩
theorem aBR (q b:Nat) (w:World) (hpr:Num.Prime q) (h23:23<=q) (hm:q<=2147483647) (hp:w.cell? ⟨b,0,none⟩=some (.int .i64 q)) :
  Calls Tryz.prog 17 #[.pointer (some ⟨b,0,none⟩)] w fun e w'=>∃ s n d,e=.returned (.tuple #[.pointer (some ⟨s,0,none⟩),.nilIface])/\w.heap.size<=s/\SpgOk q n d/\SpgAt w' s b q n d/\Below w.heap.size w w':=by
 have HPX:Hid (∀ w1:World,w1.cell? ⟨b,0,none⟩=some (.int .i64 q)->Calls Tryz.prog 44 #[.pointer (some ⟨b,0,none⟩)] w1 fun e w'=>e=.returned (.int .i64 q)/\w'=w1):=fun w1 h=>Ny q b w1 h;have hnlt:¬ (q:Int)<23:=by omega
 have HPR:=hid hpr;have HP:=hid hp;have hbl:=qK hp;clear hpr hp;have hw1:IntKind.i64.wrap ((q:Int)-1)=(q:Int)-1:=by rw[IntKind.wrap_i64];omega
 go_enter Tryz.func17,Tryz.ntmps17;go_wp2_with fail;refine (HPX.out w HP.out).mono ?_;rintro e w1 ⟨rfl,rfl⟩;go_wp2_with fail;refine (HPX.out _ HP.out).mono ?_;rintro e w1 ⟨rfl,rfl⟩;go_wp2_with fail;refine (So q _ (by omega) hm).mono ?_;rintro e w2 ⟨n,rfl,hpn,hnq,hb2⟩;have HPN:=hid hpn;have HB2:=hid hb2;have HP2:=hid ((hb2.cell (p:=⟨b,0,none⟩) hbl).trans HP.out);clear hpn hb2;go_wp2_with fail;refine (HPX.out _ HP2.out).mono ?_;rintro e w3 ⟨rfl,rfl⟩;go_wp2_with fail;refine (Wg q n _ (by omega) hm HPN.out hnq).mono ?_;rintro e w4 ⟨d,rfl,hdk,hd1,hdq,rfl⟩;have HOK:Hid (SpgOk q n d):=⟨HPR.out,h23,hm,HPN.out,hdk,hd1,by omega,by omega⟩
 clear hdk hd1 hdq HPN;go_wp2_with fail;refine (Py q b _ HPR.out (by omega) hm HP2.out).mono ?_;rintro e w5 ⟨rfl,hb5⟩;have HB5:Hid (Below w1.heap.size w1 w5):=HB2.out.trans (hb5.mono HB2.out.size);have HP5:=hid ((HB5.out.cell (p:=⟨b,0,none⟩) hbl).trans HP.out);clear hb5 HP2 HB2;go_wp2_with fail;refine (Nn q b _ HPR.out (by omega) hm HP5.out).mono ?_;rintro e w6 ⟨rfl,hb6⟩;have HB6:Hid (Below w1.heap.size w1 w6):=HB5.out.trans (hb6.mono HB5.out.size);have HP6:=hid ((HB6.out.cell (p:=⟨b,0,none⟩) hbl).trans HP.out);clear hb6 HP5 HB5;go_wp2_with fail;refine (Jm q b _ HPR.out (by omega) hm HP6.out).mono ?_;rintro e w7 ⟨rfl,hb7⟩;have HB7:Hid (Below w1.heap.size w1 w7):=HB6.out.trans (hb7.mono HB6.out.size);have HP7:=hid ((HB7.out.cell (p:=⟨b,0,none⟩) hbl).trans HP.out);clear hb7 HP6 HB6;obtain⟨R,hR,hRC⟩:=aBQ q b n d;have HR:=hid hR;have HRC:=hid hRC;clear hR hRC;generalize an 64 (mtr q)=A1 at *;generalize an 8 (wt q)=A2 at *;generalize an 64 (ctr q)=A3 at *;go_wp2_with (refine Lf rfl 70 _ rfl R _ rfl HR.out ?_);go_ret2;refine⟨w7.heap.size,n,d,rfl,HB7.out.size,HOK.out,HRC.out.at (heap_alloc_new w7 _) ?_,HB7.out.alloc HB7.out.size _⟩;exact (((Below.refl w7.heap.size w7).alloc (Nat.le_refl _) (.cells R 70)).cell (p:=⟨b,0,none⟩) (Nat.lt_of_lt_of_le hbl HB7.out.size)).trans HP7.out
theorem zK (q n d b s:Nat) (w:World) (hs:SpgAt w s b q n d) :
  Calls Tryz.prog 6 #[.pointer (some ⟨s,0,none⟩)] w fun e w'=>e=.returned (.pointer (some ⟨b,0,none⟩))/\w'=w:=by
 have c0:=hs.f;clear hs;go_enter Tryz.func6,Tryz.ntmps6;go_wp2_with fail;go_ret;exact⟨rfl,rfl⟩
theorem Tryz.infoSl:(Tryz.prog.info? 25).map (fun i=>(i.zero,i.size,i.bytes))=some (some (.slice none 0 0),1,24):=by kernel_rfl
theorem aBS (q n d b s len cap:Nat) (a:Option Addr) (f:Nat->Int) (w:World) (h3:3<=q) (hm:q<=2147483647) (hs:SpgAt w s b q n d) (hlen:len<=17592186044400) (hfit:Zd len f) (hrow:aBB (·<w.heap.size) w a len f) :
  Calls Tryz.prog 114 #[.pointer (some ⟨s,0,none⟩),.slice a len cap] w fun e w' =>
   e=.returned (.slice (some ⟨w.heap.size,0,none⟩) (pln len) (pln len))/\ArrI w' w.heap.size 3 (pln len) (pdf q f len)/\Below w.heap.size w w':=by
 have HS:=hid hs;have HF:=hid hfit;have HR:=hid hrow;clear hs hfit hrow;obtain⟨m,hmm⟩:=exE (len / 4);obtain⟨L,hL⟩:=exE (pln len);have hLL:L=4*(m+1):=by rw[hL,hmm];rfl
 have hlL:len<L:=by omega
 have hL2:L<=17592186044404:=by omega
 have e1:Int.tdiv (len:Int) 4=(m:Int):=by rw[Int.tdiv_eq_ediv_of_nonneg (by omega)];omega
 have e2:(m:Int)*4+4=(L:Int):=by omega
 have hw1:IntKind.i64.wrap ((m:Int)*4)=(m:Int)*4:=by rw[IntKind.wrap_i64];omega
 have hw2:IntKind.i64.wrap (L:Int)=(L:Int):=by rw[IntKind.wrap_i64];omega
 rw[<- hL];have HLL:=hid hL;have hmk2:=fun w=>run_make_row' (P:=Tryz.prog) 25 3 (.int .i64 0) 8 Tryz.underlying25 Tryz.infoInt rfl .i64 .i64 L (by omega) (by omega) w;clear hmm hL hLL;go_enter Tryz.func114,Tryz.ntmps114;go_wp2_with fail
 go_loopw [16] (fun iv wr=>∃ k:Nat,k<=len/\iv=.int .i64 k/\Hid (ArrI wr w.heap.size 3 L (fll (fun j=>f j % (q:Int)) (fun _=>0) k)/\Below w.heap.size w wr))
  (fun iv _=>len-(intOf iv).toNat)
 case atStart =>
  refine⟨0,by omega,rfl,?_,(Below.refl _ _).alloc (Nat.le_refl _) _⟩;rw[jJ];exact World.rowIs_made _ _ _ _
 case round =>
  obtain⟨k,hk,rfl,hC⟩:=hrel;obtain⟨hA,hbel⟩:=hC.out;by_cases hlt:k<len
  ·have hlt2:(k:Int)<(len:Int):=by omega
   have hkL:(k:Int)<(L:Int):=by omega
   have HE:Hid (ArrI (wr.setCell ⟨w.heap.size,k,none⟩ (.int .i64 (f k % (q:Int)))) w.heap.size 3 L (fll (fun j=>f j % (q:Int)) (fun _=>0) (k+1))/\Below w.heap.size w (wr.setCell ⟨w.heap.size,k,none⟩ (.int .i64 (f k % (q:Int))))) :=
    ⟨hA.next,hbel.setCell (p:=⟨w.heap.size,k,none⟩) (by simp) _⟩
   have c1:=hA.cell (show k<L by omega);have y1:=hA.frozen k;have HSW:=hid (HS.out.keep hbel);have s0:=HSW.out.f;have hks:IntKind.i64.wrap ((k:Int)+1)=(k:Int)+1:=by rw[IntKind.wrap_i64];omega
   obtain⟨bl,ol,rfl,hbl,hcl⟩:=HR.out k hlt;have hcl2:=(hbel.cell (p:=⟨bl,ol+k,none⟩) hbl).trans hcl;obtain⟨hx1,hx2⟩:=HF.out k hlt;have HMx:=hid (zZ q b (f k) wr h3 hm HSW.out.p hx1 hx2);clear hA hbel hcl hbl hC;generalize f k % (q:Int)=x at *;generalize f k=y at *;go_wp2_with fail;refine HMx.out.mono ?_;rintro e w1 ⟨rfl,rfl⟩;go_wp2_with fail;go_roundw
   case rel=>exact⟨k+1,by omega,by go_num,HE⟩
   case measure=>simp[intOf];omega
  ·obtain rfl:k=len:=by omega
   have hkL:(k:Int)<(L:Int):=by omega
   have c1:=hA.cell hlL;have y1:=hA.frozen k
   have HE:Hid (ArrI (wr.setCell ⟨w.heap.size,k,none⟩ (.int .i64 1)) w.heap.size 3 L (pdf q f k)/\Below w.heap.size w (wr.setCell ⟨w.heap.size,k,none⟩ (.int .i64 1))):=by
    refine⟨(hA.set k 1).congr (fun j hj=>?_),hbel.setCell (p:=⟨w.heap.size,k,none⟩) (by simp) _⟩;unfold up fll pdf;by_cases h1:j=k
    ·subst h1;simp
    ·by_cases h2:j<k
     ·rw[if_neg h1,if_pos h2,if_pos h2]
     ·rw[if_neg h1,if_neg h2,if_neg h2,if_neg h1]
   clear hA hbel hC;go_wp2_with fail;go_ret;exact⟨rfl,HE.out.1,HE.out.2⟩
end Go.Proofs.YtkdndfbfmchcpaaGreatDoor
