
import Derived.Test.YtkdndfbfmchcpaaGreatDoorTgAW
import Derived.Test.YtkdndfbfmchcpaaGreatDoorTgAZ
set_option maxRecDepth 1000000
set_option maxHeartbeats 8000000
namespace Go.Proofs.YtkdndfbfmchcpaaGreatDoor
variable {D r:List Int}{N0 O base g i n q:Nat}{W w w':World}{a b c d e f u v:Value}{rs:List (List Int)}{xs:List Value}
open Go.RowKit
def sx (a b c d e f:Value):Nat->Value
 | 0=>a
 | 1=>b
 | 2=>c
 | 3=>d
 | 4=>e
 | _=>f
theorem aFE (w:World) (t:TypeId) (a b c d e f:Value):(w.alloc (.cells #[a,b,c,d,e,f] t)).rowIs w.heap.size t 6 (sx a b c d e f) :=
 ⟨_,heap_alloc_new w _,rfl,fun i hi=>by
  have:i=0∨i=1∨i=2∨i=3∨i=4∨i=5:=by omega
  rcases this with rfl | rfl | rfl | rfl | rfl | rfl <;> rfl⟩
theorem Mz{t:TypeId} (h:W.rowIs g t 6 (sx a b c d e f)):W.heap[g]?=some (.cells #[a,b,c,d,e,f] t (0,0)):=by
 obtain⟨cs,h1,h2,h3⟩:=h;rw[h1]
 have:cs=#[a,b,c,d,e,f]:=by
  apply Array.ext_getElem?;intro i;by_cases hi:i<6
  ·rw[h3 i hi];have:i=0∨i=1∨i=2∨i=3∨i=4∨i=5:=by omega
   rcases this with rfl | rfl | rfl | rfl | rfl | rfl <;> rfl
  ·rw[Array.getElem?_eq_none (by omega),Array.getElem?_eq_none (by simp;omega)]
 rw[this]
def IsS (v:Value):Prop:=∃ a n c,v=.slice a n c
theorem isS (a:Option Addr) (n c:Nat):IsS (.slice a n c):=⟨a,n,c,rfl⟩
def AlS (F:Nat->Value):Prop:=∀ i,i<6->IsS (F i)
theorem alS (h0:IsS a) (h1:IsS b) (h2:IsS c) (h3:IsS d) (h4:IsS e) (h5:IsS f):AlS (sx a b c d e f):=fun i hi=>by
 have:i=0∨i=1∨i=2∨i=3∨i=4∨i=5:=by omega
 rcases this with rfl | rfl | rfl | rfl | rfl | rfl
 ·exact h0
 ·exact h1
 ·exact h2
 ·exact h3
 ·exact h4
 ·exact h5
theorem Bm{t:TypeId} (h:W.rowIs g t 6 (sx a b c d e f)) (x:Value):(W.setCell ⟨g,0,none⟩ x).rowIs g t 6 (sx x b c d e f) :=
 World.rowIs.congr (World.rowIs.set h 0 x) (fun i hi=>by
  have:i=0∨i=1∨i=2∨i=3∨i=4∨i=5:=by omega
  rcases this with rfl | rfl | rfl | rfl | rfl | rfl <;> rfl)
theorem Cg{t:TypeId} (h:W.rowIs g t 6 (sx a b c d e f)) (x:Value):(W.setCell ⟨g,1,none⟩ x).rowIs g t 6 (sx a x c d e f) :=
 World.rowIs.congr (World.rowIs.set h 1 x) (fun i hi=>by
  have:i=0∨i=1∨i=2∨i=3∨i=4∨i=5:=by omega
  rcases this with rfl | rfl | rfl | rfl | rfl | rfl <;> rfl)
theorem Dh{t:TypeId} (h:W.rowIs g t 6 (sx a b c d e f)) (x:Value):(W.setCell ⟨g,2,none⟩ x).rowIs g t 6 (sx a b x d e f) :=
 World.rowIs.congr (World.rowIs.set h 2 x) (fun i hi=>by
  have:i=0∨i=1∨i=2∨i=3∨i=4∨i=5:=by omega
  rcases this with rfl | rfl | rfl | rfl | rfl | rfl <;> rfl)
theorem Ep{t:TypeId} (h:W.rowIs g t 6 (sx a b c d e f)) (x:Value):(W.setCell ⟨g,3,none⟩ x).rowIs g t 6 (sx a b c x e f) :=
 World.rowIs.congr (World.rowIs.set h 3 x) (fun i hi=>by
  have:i=0∨i=1∨i=2∨i=3∨i=4∨i=5:=by omega
  rcases this with rfl | rfl | rfl | rfl | rfl | rfl <;> rfl)
theorem Hk{t:TypeId} (h:W.rowIs g t 6 (sx a b c d e f)) (x:Value):(W.setCell ⟨g,4,none⟩ x).rowIs g t 6 (sx a b c d x f) :=
 World.rowIs.congr (World.rowIs.set h 4 x) (fun i hi=>by
  have:i=0∨i=1∨i=2∨i=3∨i=4∨i=5:=by omega
  rcases this with rfl | rfl | rfl | rfl | rfl | rfl <;> rfl)
theorem aAh{t:TypeId} (h:W.rowIs g t 6 (sx a b c d e f)) (x:Value):(W.setCell ⟨g,5,none⟩ x).rowIs g t 6 (sx a b c d e x) :=
 World.rowIs.congr (World.rowIs.set h 5 x) (fun i hi=>by
  have:i=0∨i=1∨i=2∨i=3∨i=4∨i=5:=by omega
  rcases this with rfl | rfl | rfl | rfl | rfl | rfl <;> rfl)
theorem Us{b o:Nat}{t:TypeId}{F:Nat->Value}{x:Int} (hO:w.rowIs O t 6 F) (hF:AlS F) (h:w.cell? ⟨b,o,none⟩=some (.int .i64 x)):b≠O:=by
 rintro rfl;obtain⟨cs,h1,h2,h3⟩:=hO;have e:w.cell? ⟨b,o,none⟩=cs[o]?:=by simp[World.cell?,h1]
 rw[e] at h;by_cases ho:o<6
 ·rw[h3 o ho] at h;obtain⟨a,n,c,e2⟩:=hF o ho;rw[e2] at h;injection h with h
  cases h
 ·rw[Array.getElem?_eq_none (by omega)] at h;cases h
theorem aDm{n0:Nat}{t:TypeId}{F:Nat->Value}{a:Option Addr}{c:Nat} (h:Lst n0 w a c r) (hO:w.rowIs O t 6 F) (hF:AlS F):Lst n0 (w.setCell ⟨O,i,none⟩ v) a c r :=
 ⟨fun k hk=>by
  obtain⟨b,o,e1,e2,e3⟩:=h.row k hk;have hne:=Us hO hF e3
  exact⟨b,o,e1,e2,(World.cell?_of_block (w:=w) (a:=⟨b,o+k,none⟩) (Below.heap_setCell _ _ _ _ (by show b≠O;exact hne))).trans e3⟩,h.room,h.nil⟩
theorem SlR.setP{t:TypeId}{F:Nat->Value} (h:SlR w r u) (hO:w.rowIs O t 6 F) (hF:AlS F):SlR (w.setCell ⟨O,i,none⟩ v) r u:=by
 obtain⟨a,c,rfl,hl,hn⟩:=h;have hs:(w.setCell ⟨O,i,none⟩ v).heap.size=w.heap.size:=by simp[World.setCell]
 refine⟨a,c,rfl,by rw[hs];exact aDm hl hO hF,fun h0=>?_⟩;obtain⟨b,o,rfl,c',t',f',g1,g2⟩:=hn h0;obtain⟨b2,o2,e1,e2,e3⟩:=hl.row 0 h0;cases e1;have hne:=Us hO hF e3;exact⟨b,o,rfl,c',t',f',(Below.heap_setCell _ _ _ _ (by show b≠O;exact hne)).trans g1,g2⟩
theorem Ut{F:Nat->Value} (h:w.ownsRow base 25 1 u n xs) (hO:w.rowIs O 53 6 F):(w.setCell ⟨O,i,none⟩ v).ownsRow base 25 1 u n xs:=by
 refine h.kept (row:=some O) (jZ (yZ _ _) i v) ?_;rcases h.2 with ⟨rfl,_⟩ | ⟨g,cap,cur,rfl,hb,hg,_⟩
 ·exact .inl rfl
 ·refine .inr (fun e=>?_);obtain⟨cs,h1,_,_⟩:=hO;have e2:g=O:=by simpa [Value.ownBlock] using e
  rw[<- e2,hg] at h1;simp at h1
theorem OwnR.setP{F:Nat->Value} (h:OwnR base w u rs) (hO:w.rowIs O 53 6 F) (hF:AlS F):OwnR base (w.setCell ⟨O,i,none⟩ v) u rs:=by
 obtain⟨vals,h1,h2⟩:=h;refine⟨vals,Ut h1 hO,fun j hj=>?_⟩;obtain⟨x,e1,e2⟩:=h2 j hj;exact⟨x,e1,e2.setP hO hF⟩
theorem Yd (p b B0 B1 cap m:Nat) (r:Int) (a:Option Addr) (rows:List (List Int)) (w:World) (h3:3<=p) (hm:p<=2147483647) (hp:w.cell? ⟨b,0,none⟩=some (.int .i64 p)) (k0:w.cell? ⟨B0,0,none⟩=some (.pointer (some ⟨b,0,none⟩))) (k1:w.cell? ⟨B1,0,none⟩=some (.int .i64 r))
  (hr1:-9223372036854775808<=r) (hr2:r<=9223372036854775807) (h1:1<=rows.length) (hn:rows.length<=17592186044000) (hm2:m<=17592186044000) (hF:Ak rows) (hwi:∀ k,k<rows.length->(rat rows k).length=m) (hl:LstR w.heap.size w a cap rows) :
  Calls Tryz.prog 75 #[.slice a rows.length cap,.func (.func 81) #[] #[.pointer (some ⟨B0,0,none⟩),.pointer (some ⟨B1,0,none⟩)]] w fun e w'=>e=.returned (.slice (some ⟨w.heap.size,0,none⟩) m m)/\SlR w' (smr p rows.length (pwl p r rows.length) rows m) (.slice (some ⟨w.heap.size,0,none⟩) m m)/\Below w.heap.size w w':=by
 refine (Iz 81 cap m #[.pointer (some ⟨B0,0,none⟩),.pointer (some ⟨B1,0,none⟩)] (fun l=>evz p l r) a rows w h1 hn hm2 hwi hl
  (xZ Tryz.func81 (by kernel_rfl) (by kernel_rfl))
  (fun W2 g j hW2 hj hA=>by
   have hq:=Up p b B0 B1 rows.length r (some ⟨g,0,none⟩) (pgc rows j) W2 h3 hm ((hW2.cell (p:=⟨b,0,none⟩) (qK hp)).trans hp) ((hW2.cell (p:=⟨B0,0,none⟩) (qK k0)).trans k0) ((hW2.cell (p:=⟨B1,0,none⟩) (qK k1)).trans k1)
    (by rw[An];omega) (Ln hF j) hr1 hr2 (fun k hk=>⟨g,0,rfl,hA.lt,by rw[Nat.zero_add];exact hA.cell (by rw[An] at hk;exact hk)⟩)
   rw[An] at hq
   exact hq)).mono ?_
 rintro e w' ⟨rfl,hA,hb⟩;refine⟨rfl,Qy (hA.congr (fun j hj=>?_)) (Gk _ _ _ _ _),hb⟩;unfold smr;rw[kZ _ _ _ hj];have h:=Jv h3 (pgc rows j) r;rw[An] at h;exact h
theorem Ye (p b lo B0 B1 cap m:Nat) (L:List Int) (a:Option Addr) (rows:List (List Int)) (w:World) (h3:3<=p) (hm:p<=2147483647) (hp:w.cell? ⟨b,0,none⟩=some (.int .i64 p)) (hX:ExQ w lo B0 B1 b L) (hLl:L.length=rows.length) (hfL:Fits L)
  (h1:1<=rows.length) (hn:rows.length<=17592186044000) (hm2:m<=17592186044000) (hF:Ak rows) (hwi:∀ k,k<rows.length->(rat rows k).length=m) (hl:LstR w.heap.size w a cap rows) :
  Calls Tryz.prog 75 #[.slice a rows.length cap,.func (.func 77) #[] #[.pointer (some ⟨B0,0,none⟩),.pointer (some ⟨B1,0,none⟩)]] w fun e w'=>e=.returned (.slice (some ⟨w.heap.size,0,none⟩) m m)/\SlR w' (smr p rows.length L rows m) (.slice (some ⟨w.heap.size,0,none⟩) m m)/\Below w.heap.size w w':=by
 refine (Iz 77 cap m #[.pointer (some ⟨B0,0,none⟩),.pointer (some ⟨B1,0,none⟩)] (fun l=>dtz p l.length l L) a rows w h1 hn hm2 hwi hl
  (xZ Tryz.func77 (by kernel_rfl) (by kernel_rfl))
  (fun W2 g j hW2 hj hA=>by
   have hq:=Hj p b lo B0 B1 rows.length (some ⟨g,0,none⟩) (pgc rows j) L W2 h3 hm ((hW2.cell (p:=⟨b,0,none⟩) (qK hp)).trans hp) (hX.below hW2) (by rw[An];omega) (by rw[An];omega) (Ln hF j) hfL (fun k hk=>⟨g,0,rfl,hA.lt,by rw[Nat.zero_add];exact hA.cell (by rw[An] at hk;exact hk)⟩);rw[An] at hq ⊢
   exact hq)).mono ?_
 rintro e w' ⟨rfl,hA,hb⟩;refine⟨rfl,Qy (hA.congr (fun j hj=>?_)) (Gk _ _ _ _ _),hb⟩;unfold smr;rw[kZ _ _ _ hj,Tb,An]
theorem Hl (q n d b s cap:Nat) (a:Option Addr) (rows:List (List Int)) (w:World) (ok:SpgOk q n d) (hs:SpgAt w s b q n d) (h1:1<=rows.length) (h2:rows.length<=65536) (hfr:Ak rows) (hl:LstR w.heap.size w a cap rows) :
  Calls Tryz.prog 30 #[.pointer (some ⟨s,0,none⟩),.slice a rows.length cap] w fun e w'=>∃ a c,e=.returned (.tuple #[.slice a 4 c,.nilIface])/\SlR w' (rtf q n rows.length rows) (.slice a 4 c)/\Below w.heap.size w w':=by
 have HO:=hid (Un q n d b s cap 0 a none rows [] w ok hs h1 h2 (by simp) hfr hl (fun k hk=>by simp at hk) (by simp));have hnd:=aEC q n rows h1;have HND:=hid hnd;clear ok hs hfr hl;rw[List.length_nil] at HO
 have HO2:Hid (Calls Tryz.prog 70 #[.pointer (some ⟨s,0,none⟩),.slice a rows.length cap,.slice none 0 0] w fun e w'=>∃ bn on ap ar cp cr cn an0 c0,e=.returned (.tuple #[.agg #[.slice ap 0 cp,.slice ar 0 cr,.slice (some ⟨bn,on,none⟩) 1 cn],.nilIface])/\w'.cell? ⟨bn,on+0,none⟩=some (.slice an0 4 c0)/\bn<w'.heap.size/\SlR w' (rtf q n rows.length rows) (.slice an0 4 c0)/\Below w.heap.size w w'):=by
  refine HO.out.mono ?_;rintro e w' ⟨os,ap,ar,an',cp,cr,cn,rfl,hos,hp,hr,hn,hb⟩;have:=aDj hos;subst this;rw[hnd] at hn ⊢;obtain⟨vals,ho,hv⟩:=hn;rcases ho.2 with ⟨e1,h0⟩ | ⟨g,cap,cur,e1,hb',hg,_,_,_,_⟩
  ·simp at h0
  ·cases e1;obtain⟨u,h3',h4'⟩:=hv 0 (by simp);obtain⟨ak,ck,rfl,_⟩:=h4'.lst;have hl4:(rat [rtf q n rows.length rows] 0).length=4:=Ek q n _ _ h1;rw[hl4] at h3' h4';have hcn:=ho.cellAt 0 (by simp);rw[h3'] at hcn;exact⟨g,0,ap,ar,cp,cr,cn,ak,ck,rfl,hcn,(Array.getElem?_eq_some_iff.1 hg).1,h4',hb⟩
 clear HO hnd;go_enter Tryz.func30,Tryz.ntmps30;go_wp2_with fail;refine HO2.out.mono ?_;rintro e w1 ⟨bn,on,ap,ar,cp,cr,cn,an0,c0,rfl,hcn,hbn,hl0,hb1⟩;have HBX:Hid (Below w1.heap.size w1 (w1.alloc (.cells #[.slice ap 0 cp,.slice ar 0 cr,.slice (some ⟨bn,on,none⟩) 1 cn] 51))):=(Below.refl _ _).alloc (Nat.le_refl _) _;have HB:=hid (hb1.trans (HBX.out.mono hb1.size));have HL:=hid (hl0.keep HBX.out);have hc1:=(HBX.out.cell (p:=⟨bn,on+0,none⟩) hbn).trans hcn;have HO1:=hid (Di w1 51 (.slice ap 0 cp) (.slice ar 0 cr) (.slice (some ⟨bn,on,none⟩) 1 cn));have k2:=HO1.out.cell (i:=2) (by omega);simp only[tri] at k2;rw[Nat.add_zero] at hc1;clear hcn hl0 hb1;go_wp2_with fail;go_ret2;exact⟨an0,c0,rfl,HL.out,HB.out⟩
theorem Rf{c:Nat} (h:PCh N0 q n w c D):∃ cs f,w.heap[c]?=some (.cells cs 94 f):=by
 obtain⟨s,b,d,_,_,_,_,_,h6⟩:=h;exact⟨_,_,h6⟩
theorem PCh.setP{c:Nat}{F:Nat->Value} (h:PCh N0 q n W c D) (hO:W.rowIs O 53 6 F) (hN:N0<=O):PCh N0 q n (W.setCell ⟨O,i,none⟩ v) c D:=by
 obtain⟨cs,f,h1⟩:=Rf h;obtain⟨cs2,h2,_,_⟩:=hO
 have hne:c≠O:=by
  rintro rfl;rw[h1] at h2;injection h2 with h2
  injection h2 with _ h2 _
  exact absurd h2 (by decide)
 exact h.blocks (Below.heap_setCell _ _ _ _ (by show c≠O;exact hne)) (fun b hb=>Below.heap_setCell _ _ _ _ (by show b≠O;omega))
theorem SlR.pstep{c:Nat} (h:SlR w r u) (hc:PCh N0 q n w c D) (e:w.grownBy w' (some c)):SlR w' r u :=
 h.blocks e.size (fun b hb hn=>qY e hb (by
  rintro rfl;obtain⟨cs,f',h1⟩:=Rf hc;obtain⟨c,t,f,h2,h3⟩:=hn;rw[h1] at h2;cases h2
  revert h3
  decide))
theorem Pb{m c:Nat} (h:w.ownsRow base 25 1 u n xs) (hc:PCh N0 q m w c D) (e:w.grownBy w' (some c)):w'.ownsRow base 25 1 u n xs:=by
 refine h.kept (row:=some c) e ?_;rcases h.2 with ⟨rfl,_⟩ | ⟨g,cap,cur,rfl,hb,hg,_⟩
 ·exact .inl rfl
 ·refine .inr (fun e=>?_);obtain⟨cs,f',h1⟩:=Rf hc;have e2:g=c:=by simpa [Value.ownBlock] using e
  rw[<- e2,hg] at h1;simp at h1
theorem OwnR.pstep{c:Nat} (h:OwnR base w u rs) (hc:PCh N0 q n w c D) (e:w.grownBy w' (some c)):OwnR base w' u rs:=by
 obtain⟨vals,h1,h2⟩:=h;refine⟨vals,Pb h1 hc e,fun j hj=>?_⟩;obtain⟨x,e1,e2⟩:=h2 j hj;exact⟨x,e1,e2.pstep hc e⟩
end Go.Proofs.YtkdndfbfmchcpaaGreatDoor
