
import Derived.Test.YtkdndfbfmchcpaaGreatDoorTgAT
import Derived.Test.YtkdndfbfmchcpaaGreatDoorTgAG
set_option maxRecDepth 1000000
set_option maxHeartbeats 8000000
namespace Go.Proofs.YtkdndfbfmchcpaaGreatDoor
variable {A B O g i m n3 s x y:Nat}{W W' W3 w:World}{a b c v:Value}{d1 d2:List Int}
open Go.RowKit
theorem Ov{M M1 M2:Nat->Nat->Option (List Int)} (h1:ClM M M1) (hs:Sub M1 M2) (h2:ClM M1 M2):ClM M M2:=fun a b h=>by
 rcases h2 a b h with h | h
 ·rcases h1 a b h with h | ⟨e1,e2,e3⟩
  ·exact .inl h
  ·exact .inr ⟨e1,hs _ _ e2,hs _ _ e3⟩
 ·exact .inr h
def PMx (D:Nat->Nat->List Int) (M:Nat->Nat->Option (List Int)) (B x m y:Nat) (u v:Bool) (W:World):Prop :=
 ∃ M',MapIs W B M'/\Snd M' D/\Sub M M'/\ClM M M'/\(u=true->M' x m≠none)/\(v=true->M' m y≠none)
theorem PMx.block{D:Nat->Nat->List Int}{M:Nat->Nat->Option (List Int)}{u v:Bool} (h:PMx D M B x m y u v W) (e:W'.heap[B]?=W.heap[B]?):PMx D M B x m y u v W':=by
 obtain⟨M',h1,r⟩:=h;exact⟨M',h1.block e,r⟩
def d4 (d:List Int):Value:=.agg #[.int .i64 (zat d 0),.int .i64 (zat d 1),.int .i64 (zat d 2),.int .i64 (zat d 3)]
def sF (g x m y n3:Nat) (d1 d2:List Int) (W:World):Nat->Value->Prop
 | 0,v=>v=.pointer (some ⟨g,0,none⟩)
 | 1,v=>v=.agg #[.int .i64 (x:Int),.int .i64 (m:Int)]
 | 2,v=>v=d4 d1
 | 3,v=>v=.pointer (some ⟨g,0,none⟩)
 | 4,v=>v=.agg #[.int .i64 (m:Int),.int .i64 (y:Int)]
 | 5,v=>v=d4 d2
 | 6,v=>∃ A,v=.pointer (some ⟨A,0,none⟩)/\n3<=A/\ArrI W A 175 4 (fun _=>0)
 | _,v=>∃ A,v=.pointer (some ⟨A,0,none⟩)/\n3<=A/\ArrI W A 175 4 (fun _=>0)
theorem Kg (hB:B<n3) (h:W.grownBy W' (some B)):∀ k u,sF g x m y n3 d1 d2 W k u->sF g x m y n3 d1 d2 W' k u:=fun k u hk=>by
 have key:(∃ A,u=.pointer (some ⟨A,0,none⟩)/\n3<=A/\ArrI W A 175 4 (fun _=>0))->∃ A,u=.pointer (some ⟨A,0,none⟩)/\n3<=A/\ArrI W' A 175 4 (fun _=>0):=by rintro⟨A,h1,h2,h3⟩;exact⟨A,h1,h2,h3.block (qY h h3.lt (by omega))⟩
 match k,hk with
 | 0,hk=>exact hk
 | 1,hk=>exact hk
 | 2,hk=>exact hk
 | 3,hk=>exact hk
 | 4,hk=>exact hk
 | 5,hk=>exact hk
 | 6,hk=>exact key hk
 | k+7,hk=>exact key hk
def aFU (n3:Nat) (d1 d2:List Int) (f:Nat->Int) (W:World) (σ:Nat->Value):Prop:=∃ A A',σ 6=.pointer (some ⟨A,0,none⟩)/\σ 7=.pointer (some ⟨A',0,none⟩)/\σ 5=d4 d2/\n3<=A/\n3<=A'/\A≠A'/\ArrI W A 175 4 (zat d1)/\ArrI W A' 175 4 f
def aFV (D:Nat->Nat->List Int) (M:Nat->Nat->Option (List Int)) (g B x m y n3:Nat) (W3:World) (gA:(Nat->Value)->Act) (L:Array Bool) (a:Act) (W:World):Prop :=
 ∃ σ,a=gA σ/\W3.grownBy W (some B)/\PMx D M B x m y (L.getD 2 false) (L.getD 5 false) W /\
  (L.getD 8 false=false->L.getD 9 false=false/\Told 8 (sF g x m y n3 (D x m) (D m y)) L W σ/\(L.getD 6 false=true->L.getD 7 false=true->σ 6≠σ 7)) /\
  (L.getD 8 false=true->L.getD 9 false=false->aFU n3 (D x m) (D m y) (fun _=>0) W σ)/\(L.getD 9 false=true->aFU n3 (D x m) (D m y) (zat (D m y)) W σ)
theorem De (h:W3.grownBy W (some B)) (hA:W3.heap.size<=A) (i:Nat) (v:Value):W3.grownBy (W.setCell ⟨A,i,none⟩ v) (some B) :=
 ⟨h.os,h.tape,h.output,by have:=h.size;simpa [World.setCell] using this,fun k hk hne=>(Below.heap_setCell _ _ _ _ (by show k≠A;omega)).trans (h.block k hk hne)⟩
theorem Eo (W:World) (A k:Nat) (h:k≠A) (v0 v1 v2 v3:Value):((((W.setCell ⟨A,0,none⟩ v0).setCell ⟨A,1,none⟩ v1).setCell ⟨A,2,none⟩ v2).setCell ⟨A,3,none⟩ v3).heap[k]?=W.heap[k]?:=by
 rw[Below.heap_setCell _ _ _ _ h,Below.heap_setCell _ _ _ _ h,Below.heap_setCell _ _ _ _ h,Below.heap_setCell _ _ _ _ h]
theorem Ex{L:Array Bool} (h:i<L.size):(L.setIfInBounds i true).getD i false=true:=by simp[h]
theorem At{D:Nat->Nat->List Int}{M:Nat->Nat->Option (List Int)}{gA:(Nat->Value)->Act}{L:Array Bool}{σ:Nat->Value}{a':Act} (hi:i<8) (h8:L.getD 8 false=false) (h9:L.getD 9 false=false)
  (ht:Told 8 (sF g x m y n3 (D x m) (D m y)) L W σ) (hgb:W3.grownBy W' (some B)) (hm:∀ k u,sF g x m y n3 (D x m) (D m y) W k u->sF g x m y n3 (D x m) (D m y) W' k u) (hv:sF g x m y n3 (D x m) (D m y) W' i v) (hpm:PMx D M B x m y ((L.setIfInBounds i true).getD 2 false) ((L.setIfInBounds i true).getD 5 false) W')
  (h67:(L.setIfInBounds i true).getD 6 false=true->(L.setIfInBounds i true).getD 7 false=true->Cj σ i v 6≠Cj σ i v 7) (ha:a'=gA (Cj σ i v)):aFV D M g B x m y n3 W3 gA (L.setIfInBounds i true) a' W' :=
 ⟨Cj σ i v,ha,hgb,hpm,fun _=>⟨by rw[qZ (by omega)];exact h9,ht.one hm hv,h67⟩,fun h=>(by rw[qZ (by omega),h8] at h;cases h),fun h=>(by rw[qZ (by omega),h9] at h;cases h)⟩
def rA5 (g ws w3s B x m y:Nat) (σ:Nat->Value):Act :=
 { tmps:=#[.pointer (some ⟨g,0,none⟩),.agg #[.int .i64 (x:Int),.int .i64 (y:Int)],undef,.pointer (some ⟨ws,0,none⟩),.pointer (some ⟨ws+1,0,none⟩),.pointer (some ⟨ws+2,0,none⟩),.bool false,.pointer (some ⟨w3s,0,none⟩),.pointer (some ⟨w3s+1,0,none⟩),σ 6,σ 7,undef,
   .tuple #[.agg #[.int .i64 0,.int .i64 0,.int .i64 0,.int .i64 0],.bool false],.pointer (some ⟨g,0,none⟩),.pointer (some ⟨g,0,none⟩),.pointer (some ⟨g,1,none⟩),.map (some B),.agg #[.int .i64 (x:Int),.int .i64 (y:Int)],
   .tuple #[.agg #[.int .i64 0,.int .i64 0,.int .i64 0,.int .i64 0],.bool false],.agg #[.int .i64 0,.int .i64 0,.int .i64 0,.int .i64 0],.bool false,.bool false,undef,
   .tuple #[.agg #[.int .i64 (x:Int),.int .i64 (m:Int)],.agg #[.int .i64 (m:Int),.int .i64 (y:Int)]],.agg #[.int .i64 (x:Int),.int .i64 (y:Int)],
   .tuple #[.agg #[.int .i64 (x:Int),.int .i64 (m:Int)],.agg #[.int .i64 (m:Int),.int .i64 (y:Int)]],.agg #[.int .i64 (x:Int),.int .i64 (m:Int)],.agg #[.int .i64 (m:Int),.int .i64 (y:Int)],
   σ 0,σ 1,σ 2,σ 3,σ 4,σ 5,undef,undef,undef,undef,undef,undef,undef,undef,undef,undef,undef,undef],defers:=[] }
theorem ArrI.lst4{t:TypeId}{d:List Int} (h:ArrI W A t 4 (zat d)) (hd:d.length=4):Lst W.heap.size W (some ⟨A,0,none⟩) 4 d :=
 ⟨fun k hk=>⟨A,0,rfl,h.lt,by rw[Nat.zero_add];exact h.cell (by omega)⟩,by omega,fun e=>by cases e⟩
theorem aDb{V:World}{P:Nat}{A':Nat} (hP:V.heap[P]?=some (.cells #[.slice (some ⟨A,0,none⟩) 4 4,.slice (some ⟨A',0,none⟩) 4 4] 25 (0,0))) (h1:Lst V.heap.size V (some ⟨A,0,none⟩) 4 d1) (h2:Lst V.heap.size V (some ⟨A',0,none⟩) 4 d2) (l1:d1.length=4) (l2:d2.length=4):LstR V.heap.size V (some ⟨P,0,none⟩) 2 [d1,d2]:=by
 have hlt:P<V.heap.size:=(Array.getElem?_eq_some_iff.1 hP).1;refine⟨fun k hk=>?_,Nat.le_refl _,fun h=>by cases h⟩;have:k=0∨k=1:=by simp at hk;omega
 rcases this with rfl | rfl
 ·refine⟨P,0,some ⟨A,0,none⟩,4,rfl,hlt,?_,h1⟩;show _=some (Value.slice (some ⟨A,0,none⟩) d1.length 4);rw[l1];simp[World.cell?,hP]
 ·refine⟨P,0,some ⟨A',0,none⟩,4,rfl,hlt,?_,h2⟩;show _=some (Value.slice (some ⟨A',0,none⟩) d2.length 4);rw[l2];simp[World.cell?,hP]
def sq:Code->Code
 | .seq _ b=>b
 | c=>c
noncomputable def rootCode:Code:=(Tryz.f128.body).getD .ret
theorem Mm{P:Program}{c c':Code}{Q:Exit->Act->World->Prop}{a:Act} (e:c'=c) (h:c.wp P Q a w):c'.wp P Q a w:=by rw[e];exact h
def Cf (D:Nat->Nat->List Int) (M:Nat->Nat->Option (List Int)) (B x y:Nat) (w:World) (e:Ending) (w':World):Prop:=e=.returned (.agg (an 4 (zat (D x y))))/\(∃ M',MapIs w' B M'/\Snd M' D/\Sub M M'/\ClM M M'/\M' x y≠none)/\w.grownBy w' (some B)
theorem aFW{u1 u2 u5 u6 u7 u8 u9 u10 u12 u13 u14 u15 u16 u17 u18 u19 u20 u21 u22 u23 u24 u25 u26 u27 u28 u29 u30 u31 u32 u33 u34 u35 u36 u37 u38 u39 u40 u41 u42 u43 u44 u45:Value} (s g B x y c m E:Nat) (D:Nat->Nat->List Int) (M:Nat->Nat->Option (List Int)) (w V:World) (hm:m=x+lft c) (hc:y=x+c) (hx:x<=1000000) (hy:y<=1000000) (h2:2<=c)
  (hE:ArrI V E 175 4 (zat (D x y))) (hEn:w.heap.size+1<E) (hpm:PMx D M B x m y true true V) (hw:WlkAt V g B s) (hk:V.rowIs w.heap.size 163 2 (duo (.int .i64 (x:Int)) (.int .i64 (y:Int)))) (hr:ArrI V (w.heap.size+1) 175 4 (fun _=>0)) (hgb:w.grownBy V (some B)) (hBl:B<w.heap.size) (hBg:B≠g) :
  (sq (sq (sq (sq (sq rootCode))))).wp Tryz.prog (bodyPost Tryz.prog Tryz.f128 (Cf D M B x y w)) { tmps:=#[.pointer (some ⟨g,0,none⟩),u1,u2,.pointer (some ⟨w.heap.size,0,none⟩),.pointer (some ⟨w.heap.size+1,0,none⟩),u5,u6,u7,u8,u9,u10,.pointer (some ⟨E,0,none⟩),u12,u13,u14,u15,u16,u17,u18,u19,u20,u21,u22,u23,u24,u25,u26,u27,u28,u29,u30,u31,u32,u33,u34,u35,u36,u37,u38,u39,u40,u41,u42,u43,u44,u45],defers:=[] } V:=by
 have c1:=hw.c1;have k0:=hk.cell (i:=0) (by omega);have k1:=hk.cell (i:=1) (by omega);simp only[duo] at k0 k1;have d0:=hE.cell (i:=0) (by omega);have d1:=hE.cell (i:=1) (by omega);have d2:=hE.cell (i:=2) (by omega);have d3:=hE.cell (i:=3) (by omega);obtain⟨M',g1,g2,g3,g4,g5,g6⟩:=hpm;obtain⟨w2,hrun,hm2,hgb2⟩:=(show MapIs V.drew B M' from g1).update (a:=x) (b:=y) (by omega) (by omega) (D x y);rw[an4] at hrun;unfold gk at hrun;have hEl:=hE.lt;have hB2:∀ k,k<V.heap.size->k≠B->w2.heap[k]?=V.heap[k]?:=fun k hk hne=>qY (A:=V.drew) hgb2 hk hne;have hcell:∀ a:Addr,a.block<V.heap.size->a.block≠B->w2.cell? a=V.cell? a:=fun a h1 h2=>World.cell?_of_block (w:=V) (hB2 a.block h1 h2);have c1':=(hcell ⟨g,1,none⟩ hw.lt (Ne.symm hBg)).trans c1;have k0':=(hcell ⟨w.heap.size,0,none⟩ (by show w.heap.size<_;omega) (by show w.heap.size≠B;omega)).trans k0;have k1':=(hcell ⟨w.heap.size,1,none⟩ (by show w.heap.size<_;omega) (by show w.heap.size≠B;omega)).trans k1;have d0':=(hcell ⟨E,0,none⟩ hEl (by show E≠B;omega)).trans d0;have d1':=(hcell ⟨E,1,none⟩ hEl (by show E≠B;omega)).trans d1;have d2':=(hcell ⟨E,2,none⟩ hEl (by show E≠B;omega)).trans d2;have d3':=(hcell ⟨E,3,none⟩ hEl (by show E≠B;omega)).trans d3;have HAd:=hid (hE.block (hB2 E hEl (by omega)));have HAr:=hid (hr.block (hB2 _ hr.lt (by omega)))
 have HFIN:Hid (∀ w4,w4=w2.setRow (w.heap.size+1) (an 4 (zat (D x y)))->Cf D M B x y w (.returned (.agg (an 4 (zat (D x y))))) w4):=fun w4 e=>by
  rw[e];have hy2:y-x=c:=by omega
  refine⟨rfl,⟨upd M' x y (D x y),hm2.block (setRow_other _ _ _ _ (by omega)),?_,?_,?_,by rw[Am];simp⟩,?_⟩
  ·intro a b dd h;by_cases hab:a=x/\b=y
   ·rw[hab.1,hab.2,Am] at h;cases h;rw[hab.1,hab.2]
   ·rw[yQ hab] at h;exact g2 a b dd h
  ·intro a b h;by_cases hab:a=x/\b=y
   ·rw[hab.1,hab.2,Am];simp
   ·rw[yQ hab];exact g3 a b h
  ·have hsub:∀ a b,M' a b≠none->upd M' x y (D x y) a b≠none:=fun a b h=>by
    by_cases hab:a=x/\b=y
    ·rw[hab.1,hab.2,Am];simp
    ·rw[yQ hab];exact h
   intro a b h;by_cases hab:a=x/\b=y
   ·right;rw[hab.1,hab.2,hy2,<- hm];exact⟨h2,hsub _ _ (g5 rfl),hsub _ _ (g6 rfl)⟩
   ·rw[yQ hab] at h;rcases g4 a b h with h | ⟨e1,e2,e3⟩
    ·exact .inl h
    ·exact .inr ⟨e1,hsub _ _ e2,hsub _ _ e3⟩
  ·have hg3:w.grownBy w2 (some B):=qX (Qf hgb) hgb2;exact⟨hg3.os,hg3.tape,hg3.output,by simpa using hg3.size,fun k hk hne=>(setRow_other _ _ _ _ (by omega)).trans (hg3.block k hk hne)⟩
 generalize Cf D M B x y w=RR at *;clear hm hc hE g1 g2 g3 g4 g5 g6 hw hk hr hgb hm2 hgb2 hB2 hcell;refine Mm (c:=.seq (.region 7 _ true) _) rfl ?_;go_wp2_with fail;go_region_held3 (fun w'=>w'.cell? ⟨g,1,none⟩=some (.map (some B))/\w'.cell? ⟨w.heap.size,0,none⟩=some (.int .i64 (x:Int))/\w'.cell? ⟨w.heap.size,1,none⟩=some (.int .i64 (y:Int))/\w'.cell? ⟨E,0,none⟩=some (.int .i64 (zat (D x y) 0))/\w'.cell? ⟨E,1,none⟩=some (.int .i64 (zat (D x y) 1))/\w'.cell? ⟨E,2,none⟩=some (.int .i64 (zat (D x y) 2))/\w'.cell? ⟨E,3,none⟩=some (.int .i64 (zat (D x y) 3))) (go_keep) (fail)
 go_wp2_with (first
    | (refine jU rfl 175 _ rfl _ rfl _ _ _ _ _ HAd.out Tryz.underlying175 (by kernel_rfl) ?_)
    | (refine jX rfl 175 _ _ rfl _ _ _ _ rfl rfl _ HAr.out (by kernel_rfl) ?_))
 refine bodyPost_ret (xQ rfl _ _ (w.heap.size+1) 175 4 _ _ (zat (D x y)) rfl (HAr.out.setRow _) Tryz.underlying175 (by kernel_rfl)) rfl ?_;exact HFIN.out _ rfl
theorem aFX (q n d b s g B x y c m A A' w3s:Nat) (D:Nat->Nat->List Int) (M:Nat->Nat->Option (List Int)) (w W:World) (σ:Nat->Value) (ok:SpgOk q n d) (hD:∀ a b,Dgst q (D a b)) (hm:m=x+lft c) (hc:y=x+c) (hx:x<=1000000) (hy:y<=1000000) (h2:2<=c) (hDe:D x y=digl q n (1 :: (D x m++D m y))) (e6:σ 6=.pointer (some ⟨A,0,none⟩)) (e7:σ 7=.pointer (some ⟨A',0,none⟩))
  (hA2:ArrI W A 175 4 (zat (D x m))) (hA4:ArrI W A' 175 4 (zat (D m y))) (hpm:PMx D M B x m y true true W) (hs:SpgAt W s b q n d) (hw:WlkAt W g B s) (hk:W.rowIs w.heap.size 163 2 (duo (.int .i64 (x:Int)) (.int .i64 (y:Int)))) (hr:ArrI W (w.heap.size+1) 175 4 (fun _=>0)) (hgb:w.grownBy W (some B)) (hBl:B<w.heap.size) (hBg:B≠g) :
  (sq (sq (sq (sq rootCode)))).wp Tryz.prog (bodyPost Tryz.prog Tryz.f128 (Cf D M B x y w)) (rA5 g w.heap.size w3s B x m y σ) W:=by
 have hgW:=hw.lt;have hrl:=hr.lt
 have HH:Hid (∀ (V:World) (P:Nat),Below W.heap.size W V->V.heap[P]?=some (.cells #[.slice (some ⟨A,0,none⟩) 4 4,.slice (some ⟨A',0,none⟩) 4 4] 25 (0,0))->Calls Tryz.prog 160 #[.pointer (some ⟨g,0,none⟩),.int .i64 1,.slice (some ⟨P,0,none⟩) 2 2] V fun e w'=>e=.returned (d4 (D x y))/\Below V.heap.size V w'):=fun V P hb hP=>by
  have hfl:[D x m,D m y].flatten=D x m++D m y:=by simp
  have hl1:=(hD x m).1;have hl2:=(hD m y).1;have hf1:=(hD x m).fits ok.hm;have hf2:=(hD m y).fits ok.hm;have hr:LstR V.heap.size V (some ⟨P,0,none⟩) 2 [D x m,D m y]:=aDb hP ((hA2.below hb hA2.lt).lst4 hl1) ((hA4.below hb hA4.lt).lst4 hl2) hl1 hl2;have:=Ot q n d b s g B 2 1 (some ⟨P,0,none⟩) [D x m,D m y] V ok (hs.keep hb) (hw.block (hb.block _ hgW)) (by rw[hfl,List.length_append];omega) (by simp) (by rw[hfl];exact zX (by omega) (yU hf1 hf2)) hr;rw[hfl,<- hDe,an4] at this;exact this
 have HT:Hid (∀ (E:Nat) (V:World),Below W.heap.size W V->W.heap.size<=E->ArrI V E 175 4 (zat (D x y))->∀ u1 u2 u5 u6 u7 u8 u9 u10 u12 u13 u14 u15 u16 u17 u18 u19 u20 u21 u22 u23 u24 u25 u26 u27 u28 u29 u30 u31 u32 u33 u34 u35 u36 u37 u38 u39 u40 u41 u42 u43 u44 u45:Value,(sq (sq (sq (sq (sq rootCode))))).wp Tryz.prog (bodyPost Tryz.prog Tryz.f128 (Cf D M B x y w)) { tmps:=#[.pointer (some ⟨g,0,none⟩),u1,u2,.pointer (some ⟨w.heap.size,0,none⟩),.pointer (some ⟨w.heap.size+1,0,none⟩),u5,u6,u7,u8,u9,u10,.pointer (some ⟨E,0,none⟩),u12,u13,u14,u15,u16,u17,u18,u19,u20,u21,u22,u23,u24,u25,u26,u27,u28,u29,u30,u31,u32,u33,u34,u35,u36,u37,u38,u39,u40,u41,u42,u43,u44,u45],defers:=[] } V):=by intro E V hb hE1 hE u1 u2 u5 u6 u7 u8 u9 u10 u12 u13 u14 u15 u16 u17 u18 u19 u20 u21 u22 u23 u24 u25 u26 u27 u28 u29 u30 u31 u32 u33 u34 u35 u36 u37 u38 u39 u40 u41 u42 u43 u44 u45;exact aFW s g B x y c m E D M w V hm hc hx hy h2 hE (by omega) (hpm.block (hb.block _ (by have:=hgb.size;omega))) (hw.block (hb.block _ hgW)) (hk.of_block (hb.block _ hk.lt)) (hr.block (hb.block _ hrl)) (qX hgb (qJ hb)) hBl hBg
 clear hs hw hk hr hgb hpm hm hc hD hA2 hA4 ok hDe;refine Mm (c:=.seq (.region 6 _ true) _) rfl ?_;refine wp_seq_k (fun K hK=>?_);simp only[rA5,e6,e7];generalize σ 0=u28 at *;generalize σ 1=u29 at *;generalize σ 2=u30 at *;generalize σ 3=u31 at *;generalize σ 4=u32 at *;generalize σ 5=u33 at *;clear e6 e7;have HBa:Hid (Below W.heap.size W ((W.alloc (.cells #[.int .i64 0,.int .i64 0,.int .i64 0,.int .i64 0] 175)).alloc (.cells #[.slice (some ⟨A,0,none⟩) 4 4,.slice (some ⟨A',0,none⟩) 4 4] 25)).drew):=(((Below.refl _ _).alloc (Nat.le_refl _) _).alloc (by simp) _).drew;have HBb:Hid (Below W.heap.size W ((W.alloc (.cells #[.slice (some ⟨A,0,none⟩) 4 4,.slice (some ⟨A',0,none⟩) 4 4] 25)).alloc (.cells #[.int .i64 0,.int .i64 0,.int .i64 0,.int .i64 0] 175)).drew):=(((Below.refl _ _).alloc (Nat.le_refl _) _).alloc (by simp) _).drew;have HBc:Hid (Below W.heap.size W (W.alloc (.cells #[.slice (some ⟨A,0,none⟩) 4 4,.slice (some ⟨A',0,none⟩) 4 4] 25)).drew):=((Below.refl _ _).alloc (Nat.le_refl _) _).drew
 have HPa:Hid (((W.alloc (.cells #[.int .i64 0,.int .i64 0,.int .i64 0,.int .i64 0] 175)).alloc (.cells #[.slice (some ⟨A,0,none⟩) 4 4,.slice (some ⟨A',0,none⟩) 4 4] 25)).drew.heap[W.heap.size+1]?=some (.cells #[.slice (some ⟨A,0,none⟩) 4 4,.slice (some ⟨A',0,none⟩) 4 4] 25)):=by
  have:=heap_alloc_new (W.alloc (.cells #[.int .i64 0,.int .i64 0,.int .i64 0,.int .i64 0] 175)) (.cells #[.slice (some ⟨A,0,none⟩) 4 4,.slice (some ⟨A',0,none⟩) 4 4] 25)
  rwa [show (W.alloc (.cells #[.int .i64 0,.int .i64 0,.int .i64 0,.int .i64 0] 175)).heap.size=W.heap.size+1 from by simp] at this
 have HPc:Hid ((W.alloc (.cells #[.slice (some ⟨A,0,none⟩) 4 4,.slice (some ⟨A',0,none⟩) 4 4] 25)).drew.heap[W.heap.size]?=some (.cells #[.slice (some ⟨A,0,none⟩) 4 4,.slice (some ⟨A',0,none⟩) 4 4] 25)):=heap_alloc_new W (.cells #[.slice (some ⟨A,0,none⟩) 4 4,.slice (some ⟨A',0,none⟩) 4 4] 25);have HPb:Hid (((W.alloc (.cells #[.slice (some ⟨A,0,none⟩) 4 4,.slice (some ⟨A',0,none⟩) 4 4] 25)).alloc (.cells #[.int .i64 0,.int .i64 0,.int .i64 0,.int .i64 0] 175)).drew.heap[W.heap.size]?=some (.cells #[.slice (some ⟨A,0,none⟩) 4 4,.slice (some ⟨A',0,none⟩) 4 4] 25)):=(Below.heap_alloc _ _ _ (by simp)).trans HPc.out;have HXa:Hid (∀ w',Below ((W.alloc (.cells #[.int .i64 0,.int .i64 0,.int .i64 0,.int .i64 0] 175)).alloc (.cells #[.slice (some ⟨A,0,none⟩) 4 4,.slice (some ⟨A',0,none⟩) 4 4] 25)).drew.heap.size ((W.alloc (.cells #[.int .i64 0,.int .i64 0,.int .i64 0,.int .i64 0] 175)).alloc (.cells #[.slice (some ⟨A,0,none⟩) 4 4,.slice (some ⟨A',0,none⟩) 4 4] 25)).drew w'->ArrI w' W.heap.size 175 4 (fun _=>0)):=fun w' h=>ArrI.below ((ArrI.new W 4 175 (fun _=>0)).alloc (.cells #[.slice (some ⟨A,0,none⟩) 4 4,.slice (some ⟨A',0,none⟩) 4 4] 25)).drew h ((ArrI.new W 4 175 (fun _=>0)).alloc (.cells #[.slice (some ⟨A,0,none⟩) 4 4,.slice (some ⟨A',0,none⟩) 4 4] 25)).lt;have HXb:Hid (∀ w',Below ((W.alloc (.cells #[.slice (some ⟨A,0,none⟩) 4 4,.slice (some ⟨A',0,none⟩) 4 4] 25)).alloc (.cells #[.int .i64 0,.int .i64 0,.int .i64 0,.int .i64 0] 175)).drew.heap.size ((W.alloc (.cells #[.slice (some ⟨A,0,none⟩) 4 4,.slice (some ⟨A',0,none⟩) 4 4] 25)).alloc (.cells #[.int .i64 0,.int .i64 0,.int .i64 0,.int .i64 0] 175)).drew w'->ArrI w' (W.heap.size+1) 175 4 (fun _=>0)):=fun w' h=>ArrI.below (ArrI.new2 W (.cells #[.slice (some ⟨A,0,none⟩) 4 4,.slice (some ⟨A',0,none⟩) 4 4] 25) 4 175 (fun _=>0)).drew h (ArrI.new2 W (.cells #[.slice (some ⟨A,0,none⟩) 4 4,.slice (some ⟨A',0,none⟩) 4 4] 25) 4 175 (fun _=>0)).lt
 go_region_held3 (fun _=>True) (trivial)
  (first
   | (go_at_call 160;refine (HH.out _ _ (by first | with_reducible exact HBa.out | with_reducible exact HBb.out | with_reducible exact HBc.out) (by first | with_reducible exact HPa.out | with_reducible exact HPb.out | with_reducible exact HPc.out)).mono ?_;unfold d4;rintro e w' ⟨rfl,hbd⟩;
             (first
              | ((have hx:ArrI w' W.heap.size 175 4 (fun _=>0):=by with_reducible exact HXa.out _ hbd);have zc0:=hx.cell (i:=0) (by decide);have yc0:=hx.frozen 0;have zc1:=hx.cell (i:=1) (by decide);have yc1:=hx.frozen 1;have zc2:=hx.cell (i:=2) (by decide);have yc2:=hx.frozen 2;have zc3:=hx.cell (i:=3) (by decide);have yc3:=hx.frozen 3;clear hx)
              | ((have hx:ArrI w' (W.heap.size+1) 175 4 (fun _=>0):=by with_reducible exact HXb.out _ hbd);have zc0:=hx.cell (i:=0) (by decide);have yc0:=hx.frozen 0;have zc1:=hx.cell (i:=1) (by decide);have yc1:=hx.frozen 1;have zc2:=hx.cell (i:=2) (by decide);have yc2:=hx.frozen 2;have zc3:=hx.cell (i:=3) (by decide);have yc3:=hx.frozen 3;clear hx)
              | skip)))
 ·have hV:Below W.heap.size W w':=HBc.out.trans (hbd.mono HBc.out.size);have hA:=ArrI.new w' 4 175 (zat (D x y));rw[an4] at hA;exact hK _ _ (HT.out _ _ (hV.alloc hV.size _) hV.size hA _ _ _ _ _ _ _ _ _ _ _ _ _ _ _ _ _ _ _ _ _ _ _ _ _ _ _ _ _ _ _ _ _ _ _ _ _ _ _ _ _ _)
 ·have hV:Below W.heap.size W w':=HBb.out.trans (hbd.mono HBb.out.size);have hA:=Dz (HXb.out _ hbd) (zat (D x y));exact hK _ _ (HT.out _ _ ((((hV.setCell (p:=⟨W.heap.size+1,0,none⟩) (by show W.heap.size<=W.heap.size+1;omega) _).setCell (p:=⟨W.heap.size+1,1,none⟩) (by show W.heap.size<=W.heap.size+1;omega) _).setCell (p:=⟨W.heap.size+1,2,none⟩) (by show W.heap.size<=W.heap.size+1;omega) _).setCell (p:=⟨W.heap.size+1,3,none⟩) (by show W.heap.size<=W.heap.size+1;omega) _) (by omega) hA _ _ _ _ _ _ _ _ _ _ _ _ _ _ _ _ _ _ _ _ _ _ _ _ _ _ _ _ _ _ _ _ _ _ _ _ _ _ _ _ _ _)
 ·have hV:Below W.heap.size W w':=HBa.out.trans (hbd.mono HBa.out.size);have hA:=Dz (HXa.out _ hbd) (zat (D x y));exact hK _ _ (HT.out _ _ ((((hV.setCell (p:=⟨W.heap.size,0,none⟩) (Nat.le_refl _) _).setCell (p:=⟨W.heap.size,1,none⟩) (Nat.le_refl _) _).setCell (p:=⟨W.heap.size,2,none⟩) (Nat.le_refl _) _).setCell (p:=⟨W.heap.size,3,none⟩) (Nat.le_refl _) _) (Nat.le_refl _) hA _ _ _ _ _ _ _ _ _ _ _ _ _ _ _ _ _ _ _ _ _ _ _ _ _ _ _ _ _ _ _ _ _ _ _ _ _ _ _ _ _ _)
def fs:Code->Code
 | .seq a _=>a
 | c=>c
def Mn (q n d b s g B:Nat) (D:Nat->Nat->List Int) (M0:Nat->Nat->Option (List Int)) (x m:Nat):Prop:=∀ (M:Nat->Nat->Option (List Int)) (w:World),SpgAt w s b q n d->WlkAt w g B s->MapIs w B M->Sub M0 M->Snd M D->Calls Tryz.prog 128 #[.pointer (some ⟨g,0,none⟩),gk x m] w (Cf D M B x m w)
theorem aFY (q n d b s g B x y c m w3s:Nat) (D:Nat->Nat->List Int) (M0 M:Nat->Nat->Option (List Int)) (w W3:World) (ok:SpgOk q n d) (hD:∀ a b,Dgst q (D a b)) (hm:m=x+lft c) (hc:y=x+c) (hx:x<=1000000) (hy:y<=1000000) (h2:2<=c) (hDe:D x y=digl q n (1 :: (D x m++D m y)))
  (ih1:Mn q n d b s g B D M0 x m) (ih2:Mn q n d b s g B D M0 m y) (h0:Sub M0 M) (hsn:Snd M D) (hM:MapIs W3 B M) (hs:SpgAt W3 s b q n d) (hw:WlkAt W3 g B s)
  (hk:W3.rowIs w.heap.size 163 2 (duo (.int .i64 (x:Int)) (.int .i64 (y:Int)))) (hr:ArrI W3 (w.heap.size+1) 175 4 (fun _=>0)) (hL:W3.rowIs w3s 163 2 (duo (.int .i64 (x:Int)) (.int .i64 (m:Int)))) (hR:W3.rowIs (w3s+1) 163 2 (duo (.int .i64 (m:Int)) (.int .i64 (y:Int)))) (hgb:w.grownBy W3 (some B)) (hBl:B<w.heap.size) (hw3:w.heap.size<=w3s) (K:Act->World->Prop) (hK:∀ a w',(sq (sq (sq (sq rootCode)))).wp Tryz.prog (bodyPost Tryz.prog Tryz.f128 (Cf D M B x y w)) a w'->K a w') :
  (fs (sq (sq (sq rootCode)))).wp Tryz.prog (Exit.then K (bodyPost Tryz.prog Tryz.f128 (Cf D M B x y w))) (rA5 g w.heap.size w3s B x m y (fun _=>undef)) W3:=by
 have hmx:Tryz.prog.follows .mixedOrders=true:=by kernel_rfl
 have hBg:B≠g:=fun e=>by obtain⟨es,ck,h1,_⟩:=hM;unfold WlkAt at hw;rw[e,hw] at h1;cases h1
 have hBs:B≠s:=fun e=>by obtain⟨es,ck,h1,_⟩:=hM;have:=hs.f;rw[e] at h1;simp[World.cell?,h1] at this
 have hBb:B≠b:=fun e=>by obtain⟨es,ck,h1,_⟩:=hM;have:=hs.p;rw[e] at h1;simp[World.cell?,h1] at this
 have hsl:=hs.lt;have hbl:=hs.ltb;have hgl:=hw.lt;have hws:=hgb.size;have hll:=hL.lt;have hrl:=hR.lt;have hkl:=hk.lt;have hrsl:=hr.lt;have HI1:=hid ih1;have HI2:=hid ih2;have HS:=hid hs;have HW:=hid hw;have HLc:=hid hL;have HRc:=hid hR;have H0:=hid h0;have HMM:=hid hM;have HSN:=hid hsn;have HK4:=hid hk;have HAr4:=hid hr;have HG3:=hid hgb
 have HFin:Hid (∀ (A A':Nat) (W:World) (σ:Nat->Value),σ 6=.pointer (some ⟨A,0,none⟩)->σ 7=.pointer (some ⟨A',0,none⟩)->ArrI W A 175 4 (zat (D x m))->ArrI W A' 175 4 (zat (D m y))->PMx D M B x m y true true W->W3.grownBy W (some B)->(sq (sq (sq (sq rootCode)))).wp Tryz.prog (bodyPost Tryz.prog Tryz.f128 (Cf D M B x y w)) (rA5 g w.heap.size w3s B x m y σ) W) :=
  fun A A' W σ e6 e7 hA2 hA4 hpm hg=>aFX q n d b s g B x y c m A A' w3s D M w W σ ok hD hm hc hx hy h2 hDe e6 e7 hA2 hA4 hpm (HS.out.blocks (qY hg hsl (Ne.symm hBs)) (qY hg hbl (Ne.symm hBb))) (HW.out.block (qY hg hgl (Ne.symm hBg))) (HK4.out.of_block (qY hg hkl (by omega))) (HAr4.out.block (qY hg hrsl (by omega))) (qX HG3.out hg) hBl hBg
 clear hs hw hL hR h0 hM hsn hk hr hgb hDe ih1 ih2 hm hc hD ok;refine Mm (c:=.region 5 _ true) rfl ?_;refine wp_region_any hmx ?_;refine Lv (aFV D M g B x m y W3.heap.size W3 (rA5 g w.heap.size w3s B x m y)) ?step ?done (by kernel_rfl) _ _ ⟨fun _=>undef,rfl,Qf (yZ _ _),⟨M,HMM.out,HSN.out,fun _ _ h=>h,fun _ _ h=>.inl h,fun h=>by simp at h,fun h=>by simp at h⟩,fun _=>⟨by simp,fun k hk hl=>?first,fun h=>by simp at h⟩,fun h=>by simp at h,fun h=>by simp at h⟩
 case first =>
  rcases Nat.lt_or_ge k 10 with g | g
  ·simp[g] at hl
  ·omega
 case step =>
  intro L a W hcl hI i hi;obtain⟨σ,rfl,hgb,hpm,hT,hF1,hF2⟩:=hI;have hi10:i<10:=Iw hi;have hun:=Cd hi
  have hsz:i<L.size:=by
   rcases Nat.lt_or_ge i L.size with g | g
   ·exact g
   ·have:=(mem_ready.1 hi).1;simp[Array.getElem?_eq_none g] at this
  have hWs:=hgb.size;by_cases h8:i=8
  ·subst h8;have hd:∀ k,Ia .any _ 4 8 k=true->L.getD k false=true:=fun k hk=>qU hcl hi hk;obtain⟨h9,hTo,h67⟩:=hT hun;have e2:=hTo 2 (by omega) (hd 2 (by kernel_rfl));have e5:=hTo 5 (by omega) (hd 5 (by kernel_rfl));obtain⟨A,e6,hA1,hA2⟩:=hTo 6 (by omega) (hd 6 (by kernel_rfl));obtain⟨A',e7,hA3,hA4⟩:=hTo 7 (by omega) (hd 7 (by kernel_rfl));have hne:A≠A':=fun e=>h67 (hd 6 (by kernel_rfl)) (hd 7 (by kernel_rfl)) (by rw[e6,e7,e]);simp only[sF] at e2 e5;have z0:=hA2.cell (i:=0) (by omega);have z1:=hA2.cell (i:=1) (by omega);have z2:=hA2.cell (i:=2) (by omega);have z3:=hA2.cell (i:=3) (by omega);have y0:=hA2.frozen 0;have y1:=hA2.frozen 1;have y2:=hA2.frozen 2;have y3:=hA2.frozen 3;have HA5:=hid (Dz hA2 (zat (D x m)));have HA6:=hid (hA4.block (Eo W A A' (Ne.symm hne) (.int .i64 (zat (D x m) 0)) (.int .i64 (zat (D x m) 1)) (.int .i64 (zat (D x m) 2)) (.int .i64 (zat (D x m) 3))));have HG5:=hid (De (De (De (De hgb hA1 0 (.int .i64 (zat (D x m) 0))) hA1 1 (.int .i64 (zat (D x m) 1))) hA1 2 (.int .i64 (zat (D x m) 2))) hA1 3 (.int .i64 (zat (D x m) 3)));have HP5:=hid (hpm.block (Eo W A B (by omega) (.int .i64 (zat (D x m) 0)) (.int .i64 (zat (D x m) 1)) (.int .i64 (zat (D x m) 2)) (.int .i64 (zat (D x m) 3))));refine wpOp_step rfl (fun K' hK'=>?_);rw[if_pos (by rfl)];simp only[rA5,e2,e6,d4];clear hA2 hA4 hT hTo hF1 hF2;go_simp;refine hK' _ _ ⟨σ,by simp only[rA5,e2,e5,e6,e7,d4],HG5.out,?_,fun h=>?_,fun _ _=>⟨A,A',e6,e7,e5,hA1,hA3,hne,HA5.out,HA6.out⟩,fun h=>?_⟩
   ·rw[qZ (by omega),qZ (by omega)];exact HP5.out
   ·rw[Ex hsz] at h;cases h
   ·rw[qZ (by omega),h9] at h;cases h
  by_cases h9:i=9
  ·subst h9;have hd:∀ k,Ia .any _ 4 9 k=true->L.getD k false=true:=fun k hk=>qU hcl hi hk;obtain⟨A,A',e6,e7,e5,hA1,hA3,hne,hA2,hA4⟩:=hF1 (hd 8 (by kernel_rfl)) hun;have z0:=hA4.cell (i:=0) (by omega);have z1:=hA4.cell (i:=1) (by omega);have z2:=hA4.cell (i:=2) (by omega);have z3:=hA4.cell (i:=3) (by omega);have y0:=hA4.frozen 0;have y1:=hA4.frozen 1;have y2:=hA4.frozen 2;have y3:=hA4.frozen 3;have HA5:=hid (Dz hA4 (zat (D m y)));have HA6:=hid (hA2.block (Eo W A' A hne (.int .i64 (zat (D m y) 0)) (.int .i64 (zat (D m y) 1)) (.int .i64 (zat (D m y) 2)) (.int .i64 (zat (D m y) 3))));have HG5:=hid (De (De (De (De hgb hA3 0 (.int .i64 (zat (D m y) 0))) hA3 1 (.int .i64 (zat (D m y) 1))) hA3 2 (.int .i64 (zat (D m y) 2))) hA3 3 (.int .i64 (zat (D m y) 3)));have HP5:=hid (hpm.block (Eo W A' B (by omega) (.int .i64 (zat (D m y) 0)) (.int .i64 (zat (D m y) 1)) (.int .i64 (zat (D m y) 2)) (.int .i64 (zat (D m y) 3))));refine wpOp_step rfl (fun K' hK'=>?_);rw[if_pos (by rfl)];simp only[rA5,e5,e7,d4];clear hA2 hA4 hT hF1 hF2;go_simp;refine hK' _ _ ⟨σ,by simp only[rA5,e5,e6,e7,d4],HG5.out,?_,fun h=>?_,fun h=>?_,fun _=>⟨A,A',e6,e7,e5,hA1,hA3,hne,HA6.out,HA5.out⟩⟩
   ·rw[qZ (by omega),qZ (by omega)];exact HP5.out
   ·rw[qZ (by omega),hd 8 (by kernel_rfl)] at h;cases h
   ·intro h';rw[Ex hsz] at h';cases h'
  have hn8:L.getD 8 false=false:=by
   rcases hx8:L.getD 8 false with _ | _
   ·rfl
   ·have:L.getD i false=true:=by
     have hdd:Ia .any _ 4 8 i=true->L.getD i false=true:=fun hd=>Ba hcl 4 8 hd (fun o ho=>hcl 8 o ho hx8);have h14:i=0∨i=1∨i=2∨i=3∨i=4∨i=5∨i=6∨i=7:=by omega
     rcases h14 with rfl | rfl | rfl | rfl | rfl | rfl | rfl | rfl <;> exact hdd (by kernel_rfl)
    rw[hun] at this;cases this
  obtain⟨hn9,hTo,h67⟩:=hT hn8;clear hT hF1 hF2;have hlc0:=(Ay hgb (p:=⟨w3s,0,none⟩) (by show w3s<_;omega) (by show w3s≠B;omega)).trans (HLc.out.cell (i:=0) (by omega));have hlc1:=(Ay hgb (p:=⟨w3s,1,none⟩) (by show w3s<_;omega) (by show w3s≠B;omega)).trans (HLc.out.cell (i:=1) (by omega));have hrc0:=(Ay hgb (p:=⟨w3s+1,0,none⟩) (by show w3s+1<_;omega) (by show w3s+1≠B;omega)).trans (HRc.out.cell (i:=0) (by omega));have hrc1:=(Ay hgb (p:=⟨w3s+1,1,none⟩) (by show w3s+1<_;omega) (by show w3s+1≠B;omega)).trans (HRc.out.cell (i:=1) (by omega));simp only[duo] at hlc0 hlc1 hrc0 hrc1;have HSW:Hid (SpgAt W s b q n d):=HS.out.blocks (qY hgb hsl (Ne.symm hBs)) (qY hgb hbl (Ne.symm hBb));have HWW:Hid (WlkAt W g B s):=HW.out.block (qY hgb hgl (Ne.symm hBg));have h14:i=0∨i=1∨i=2∨i=3∨i=4∨i=5∨i=6∨i=7:=by omega
  rcases h14 with rfl | rfl | rfl | rfl | rfl | rfl | rfl | rfl
  ·refine wpOp_step rfl (fun K' hK'=>?_);rw[if_pos (by rfl)];simp only[rA5];go_simp;exact hK' _ _ (At (i:=0) (v:=.pointer (some ⟨g,0,none⟩)) (by omega) hn8 hn9 hTo hgb (fun _ _ h=>h) rfl (by rw[qZ (by omega),qZ (by omega)];exact hpm) (by rw[qZ (by omega),qZ (by omega)];exact h67) rfl)
  ·refine wpOp_step rfl (fun K' hK'=>?_);rw[if_pos (by rfl)];simp only[rA5];go_simp;exact hK' _ _ (At (i:=1) (v:=.agg #[.int .i64 (x:Int),.int .i64 (m:Int)]) (by omega) hn8 hn9 hTo hgb (fun _ _ h=>h) rfl (by rw[qZ (by omega),qZ (by omega)];exact hpm) (by rw[qZ (by omega),qZ (by omega)];exact h67) rfl)
  ·have e0:=hTo 0 (by omega) (qU hcl hi (by kernel_rfl));have e1:=hTo 1 (by omega) (qU hcl hi (by kernel_rfl));simp only[sF] at e0 e1;obtain⟨M',hM1,hM2,hM3,hM4,_,hM6⟩:=hpm;have HCa:=hid (HI1.out M' W HSW.out HWW.out hM1 (fun a b h=>hM3 a b (H0.out a b h)) hM2);unfold gk Cf at HCa;refine wpOp_step rfl (fun K' hK'=>?_);rw[if_pos (by rfl)];simp only[rA5,e0,e1];go_simp;refine HCa.out.mono ?_;rintro e w' ⟨rfl,⟨M2,g1,g2,g3,g4,g5⟩,hg⟩;refine hK' _ _ (At (i:=2) (v:=d4 (D x m)) (by omega) hn8 hn9 hTo (qX hgb hg) (Kg (B:=B) (by omega) hg) rfl ⟨M2,g1,g2,fun a b h=>g3 a b (hM3 a b h),Ov hM4 g3 g4,fun _=>g5,fun h=>g3 _ _ (hM6 (by rwa [qZ (by omega)] at h))⟩ (by rw[qZ (by omega),qZ (by omega)];exact h67) (by rw[an4];simp only[rA5,Cj,e0,e1,d4];rfl))
  ·refine wpOp_step rfl (fun K' hK'=>?_);rw[if_pos (by rfl)];simp only[rA5];go_simp;exact hK' _ _ (At (i:=3) (v:=.pointer (some ⟨g,0,none⟩)) (by omega) hn8 hn9 hTo hgb (fun _ _ h=>h) rfl (by rw[qZ (by omega),qZ (by omega)];exact hpm) (by rw[qZ (by omega),qZ (by omega)];exact h67) rfl)
  ·refine wpOp_step rfl (fun K' hK'=>?_);rw[if_pos (by rfl)];simp only[rA5];go_simp;exact hK' _ _ (At (i:=4) (v:=.agg #[.int .i64 (m:Int),.int .i64 (y:Int)]) (by omega) hn8 hn9 hTo hgb (fun _ _ h=>h) rfl (by rw[qZ (by omega),qZ (by omega)];exact hpm) (by rw[qZ (by omega),qZ (by omega)];exact h67) rfl)
  ·have e0:=hTo 3 (by omega) (qU hcl hi (by kernel_rfl));have e1:=hTo 4 (by omega) (qU hcl hi (by kernel_rfl));simp only[sF] at e0 e1;obtain⟨M',hM1,hM2,hM3,hM4,hM6,_⟩:=hpm;have HCa:=hid (HI2.out M' W HSW.out HWW.out hM1 (fun a b h=>hM3 a b (H0.out a b h)) hM2);unfold gk Cf at HCa;refine wpOp_step rfl (fun K' hK'=>?_);rw[if_pos (by rfl)];simp only[rA5,e0,e1];go_simp;refine HCa.out.mono ?_;rintro e w' ⟨rfl,⟨M2,g1,g2,g3,g4,g5⟩,hg⟩;refine hK' _ _ (At (i:=5) (v:=d4 (D m y)) (by omega) hn8 hn9 hTo (qX hgb hg) (Kg (B:=B) (by omega) hg) rfl ⟨M2,g1,g2,fun a b h=>g3 a b (hM3 a b h),Ov hM4 g3 g4,fun h=>g3 _ _ (hM6 (by rwa [qZ (by omega)] at h)),fun _=>g5⟩ (by rw[qZ (by omega),qZ (by omega)];exact h67) (by rw[an4];simp only[rA5,Cj,e0,e1,d4];rfl))
  ·refine wpOp_step rfl (fun K' hK'=>?_);rw[if_pos (by rfl)];simp only[rA5];go_simp;refine hK' _ _ (At (i:=6) (v:=.pointer (some ⟨W.heap.size,0,none⟩)) (by omega) hn8 hn9 hTo (qX hgb (World.grownBy_alloc _ _ _)) (Kg (B:=B) (by omega) (World.grownBy_alloc _ _ _)) ⟨W.heap.size,rfl,hWs,ArrI.new W 4 175 (fun _=>0)⟩ (by rw[qZ (by omega),qZ (by omega)];exact hpm.block (Below.heap_alloc _ _ _ (by omega))) ?_ rfl);intro _ h7;rw[qZ (by omega)] at h7;obtain⟨A',e7,hA3,hA4⟩:=hTo 7 (by omega) h7;have:=hA4.lt;show Value.pointer (some ⟨W.heap.size,0,none⟩)≠σ 7;rw[e7];intro e;injection e with e
   injection e with e
   injection e with e
   omega
  ·refine wpOp_step rfl (fun K' hK'=>?_);rw[if_pos (by rfl)];simp only[rA5];go_simp;refine hK' _ _ (At (i:=7) (v:=.pointer (some ⟨W.heap.size,0,none⟩)) (by omega) hn8 hn9 hTo (qX hgb (World.grownBy_alloc _ _ _)) (Kg (B:=B) (by omega) (World.grownBy_alloc _ _ _)) ⟨W.heap.size,rfl,hWs,ArrI.new W 4 175 (fun _=>0)⟩ (by rw[qZ (by omega),qZ (by omega)];exact hpm.block (Below.heap_alloc _ _ _ (by omega))) ?_ rfl);intro h6 _;rw[qZ (by omega)] at h6;obtain⟨A',e7,hA3,hA4⟩:=hTo 6 (by omega) h6;have:=hA4.lt;show σ 6≠Value.pointer (some ⟨W.heap.size,0,none⟩);rw[e7];intro e;injection e with e
   injection e with e
   injection e with e
   omega
 case done =>
  intro L a W hall hI;obtain⟨σ,rfl,hgb,hpm,hT,hF1,hF2⟩:=hI;obtain⟨A,A',e6,e7,e5,hA1,hA3,hne,hA2,hA4⟩:=hF2 (hall 9 (by decide));rw[hall 2 (by decide),hall 5 (by decide)] at hpm;exact hK _ _ (HFin.out A A' W σ e6 e7 hA2 hA4 hpm hgb)
theorem aAW (q n d b s g B x y c m:Nat) (D:Nat->Nat->List Int) (M0 M:Nat->Nat->Option (List Int)) (w:World) (ok:SpgOk q n d) (hD:∀ a b,Dgst q (D a b)) (hs:SpgAt w s b q n d) (hw:WlkAt w g B s) (hM:MapIs w B M) (hx:x<=1000000) (hy:y<=1000000) (hc:y=x+c) (hm:m=x+lft c) (h2:2<=c) (hd:M x y=none) (h0:Sub M0 M) (hsn:Snd M D)
  (hDe:D x y=digl q n (1 :: (D x m++D m y))) (ih1:Mn q n d b s g B D M0 x m) (ih2:Mn q n d b s g B D M0 m y) :
  Calls Tryz.prog 128 #[.pointer (some ⟨g,0,none⟩),gk x y] w (Cf D M B x y w):=by
 have HPT:Hid (∀ W,Calls Tryz.prog 158 #[.agg #[.int .i64 (x:Int),.int .i64 (y:Int)]] W fun e w'=>e=.returned (.tuple #[.agg #[.int .i64 (x:Int),.int .i64 (m:Int)],.agg #[.int .i64 (m:Int),.int .i64 (y:Int)]])/\Below W.heap.size W w'):=fun W=>by rw[hm];exact Pd x y c hc hy W
 unfold gk;have HR:=hid (Ou (x:=x) (y:=y) hw hM);have hgl:=hw.lt;have hBl:=hM.lt
 have HROOT:Hid (∀ (w3s:Nat) (W3:World),Below w.heap.size w W3->W3.rowIs w.heap.size 163 2 (duo (.int .i64 (x:Int)) (.int .i64 (y:Int)))->ArrI W3 (w.heap.size+1) 175 4 (fun _=>0)->W3.rowIs w3s 163 2 (duo (.int .i64 (x:Int)) (.int .i64 (m:Int)))->W3.rowIs (w3s+1) 163 2 (duo (.int .i64 (m:Int)) (.int .i64 (y:Int)))->w.heap.size<=w3s->∀ K:Act->World->Prop,(∀ a w',(sq (sq (sq (sq rootCode)))).wp Tryz.prog (bodyPost Tryz.prog Tryz.f128 (Cf D M B x y w)) a w'->K a w') ->
   (fs (sq (sq (sq rootCode)))).wp Tryz.prog (Exit.then K (bodyPost Tryz.prog Tryz.f128 (Cf D M B x y w))) (rA5 g w.heap.size w3s B x m y (fun _=>undef)) W3):=fun w3s W3 hb hk hr hL hRr hw3 K hK =>
  aFY q n d b s g B x y c m w3s D M0 M w W3 ok hD hm hc hx hy h2 hDe ih1 ih2 h0 hsn (hM.below hb hBl) (hs.keep hb) (hw.block (hb.block _ hgl)) hk hr hL hRr (qJ hb) hBl hw3 K hK
 clear hw hM hc hm hs hD hsn h0 hDe ih1 ih2;go_enter Tryz.func128,Tryz.ntmps128;go_wp2_with fail;generalize (w.alloc (.cells #[.int .i64 (x:Int),.int .i64 (y:Int)] 163)).alloc (.cells #[.int .i64 0,.int .i64 0,.int .i64 0,.int .i64 0] 175)=W1 at *;have hsz:=HR.out.size
 have HK:Hid (∀ W,Below W1.heap.size W1 W->W.cell? ⟨g,1,none⟩=some (.map (some B))/\W.cell? ⟨w.heap.size,0,none⟩=some (.int .i64 (x:Int))/\W.cell? ⟨w.heap.size,1,none⟩=some (.int .i64 (y:Int))/\W.heap[B]?=W1.heap[B]?):=fun W h =>
  ⟨(h.cell (p:=⟨g,1,none⟩) (by show g<_;omega)).trans HR.out.c1,(h.cell (p:=⟨w.heap.size,0,none⟩) (by show w.heap.size<_;omega)).trans (HR.out.key.cell (i:=0) (by omega)),(h.cell (p:=⟨w.heap.size,1,none⟩) (by show w.heap.size<_;omega)).trans (HR.out.key.cell (i:=1) (by omega)),h.block B (by omega)⟩
 have hLk:∀ W,W.heap[B]?=W1.heap[B]?->(Instr.lookup 196 (.map (some B)) (.agg #[.int .i64 (x:Int),.int .i64 (y:Int)]) true).run Tryz.prog W=.ok (.tuple #[.agg #[.int .i64 0,.int .i64 0,.int .i64 0,.int .i64 0],.bool false]) W:=fun W h=>by have:=(HR.out.map.block h).lookup (a:=x) (b:=y) (by omega) (by omega) true;rw[hd,show Yk M x y=(fun _=>0) from by unfold Yk;rw[hd],an4] at this;exact this
 go_region_held3 (fun w'=>w'.cell? ⟨g,1,none⟩=some (.map (some B))/\w'.cell? ⟨w.heap.size,0,none⟩=some (.int .i64 (x:Int))/\w'.cell? ⟨w.heap.size,1,none⟩=some (.int .i64 (y:Int))/\w'.heap[B]?=W1.heap[B]?)
  (first | exact HK.out _ (Below.refl _ _).drew | exact HK.out _ ((Below.refl _ _).drew.alloc (Nat.le_refl _) _)) (fail)
 all_goals (
  have HKe:=hid (HR.out.key.alloc (.cells #[.int .i64 0,.int .i64 0,.int .i64 0,.int .i64 0] 175));have HAr:=hid (HR.out.res.alloc (.cells #[.int .i64 0,.int .i64 0,.int .i64 0,.int .i64 0] 175)).drew;have HBe:Hid (Below w.heap.size w (W1.alloc (.cells #[.int .i64 0,.int .i64 0,.int .i64 0,.int .i64 0] 175)).drew):=(HR.out.below.alloc (by omega) _).drew;have HS2:Hid ((W1.alloc (.cells #[.int .i64 0,.int .i64 0,.int .i64 0,.int .i64 0] 175)).drew.heap.size=w.heap.size+3):=by unfold Hid;show (W1.alloc _).heap.size=_;simp;omega
  have hk0:(W1.alloc (.cells #[.int .i64 0,.int .i64 0,.int .i64 0,.int .i64 0] 175)).drew.cell? ⟨w.heap.size,0,none⟩=some (.int .i64 (x:Int)):=HKe.out.cell (i:=0) (by omega);have hk1:(W1.alloc (.cells #[.int .i64 0,.int .i64 0,.int .i64 0,.int .i64 0] 175)).drew.cell? ⟨w.heap.size,1,none⟩=some (.int .i64 (y:Int)):=HKe.out.cell (i:=1) (by omega);have HKe2:Hid ((W1.alloc (.cells #[.int .i64 0,.int .i64 0,.int .i64 0,.int .i64 0] 175)).drew.rowIs w.heap.size 163 2 (duo (.int .i64 (x:Int)) (.int .i64 (y:Int)))):=HKe.out;clear HK hLk HR hsz HKe;generalize (W1.alloc (.cells #[.int .i64 0,.int .i64 0,.int .i64 0,.int .i64 0] 175)).drew=W2 at *;go_wp2_with fail;refine (HPT.out W2).mono ?_;rintro e w3 ⟨rfl,hb3⟩;have HB3:=hid (HBe.out.trans (hb3.mono (by rw[HS2.out];omega)));have HAr3:=hid (HAr.out.block (hb3.block _ HAr.out.lt));have HK3:Hid (w3.rowIs w.heap.size 163 2 (duo (.int .i64 (x:Int)) (.int .i64 (y:Int)))):=HKe2.out.of_block (hb3.block _ HKe2.out.lt);have hs3:w.heap.size+3<=w3.heap.size:=by have:=hb3.size;rw[HS2.out] at this;exact this
  clear hb3 hk0 hk1 HAr HKe2 HBe HS2;go_wp2_with fail;have HLc:=hid ((Ai w3 163 (.int .i64 (x:Int)) (.int .i64 (m:Int))).alloc (.cells #[.int .i64 (m:Int),.int .i64 (y:Int)] 163))
  have HRc:Hid (((w3.alloc (.cells #[.int .i64 (x:Int),.int .i64 (m:Int)] 163)).alloc (.cells #[.int .i64 (m:Int),.int .i64 (y:Int)] 163)).rowIs (w3.heap.size+1) 163 2 (duo (.int .i64 (m:Int)) (.int .i64 (y:Int)))):=by
   have:=Ai (w3.alloc (.cells #[.int .i64 (x:Int),.int .i64 (m:Int)] 163)) 163 (.int .i64 (m:Int)) (.int .i64 (y:Int))
   rwa [show (w3.alloc (.cells #[.int .i64 (x:Int),.int .i64 (m:Int)] 163)).heap.size=w3.heap.size+1 from by simp] at this
  have HB33:Hid (Below w3.heap.size w3 ((w3.alloc (.cells #[.int .i64 (x:Int),.int .i64 (m:Int)] 163)).alloc (.cells #[.int .i64 (m:Int),.int .i64 (y:Int)] 163))):=((Below.refl _ _).alloc (Nat.le_refl _) _).alloc (by simp) _;have hs4:((w3.alloc (.cells #[.int .i64 (x:Int),.int .i64 (m:Int)] 163)).alloc (.cells #[.int .i64 (m:Int),.int .i64 (y:Int)] 163)).heap.size=w3.heap.size+2:=by simp
  generalize (w3.alloc (.cells #[.int .i64 (x:Int),.int .i64 (m:Int)] 163)).alloc (.cells #[.int .i64 (m:Int),.int .i64 (y:Int)] 163)=W3 at *;have HBW:Hid (Below w.heap.size w W3):=HB3.out.trans (HB33.out.mono (by omega));have HAr4:=hid (HAr3.out.below HB33.out (by omega));have HK4:Hid (W3.rowIs w.heap.size 163 2 (duo (.int .i64 (x:Int)) (.int .i64 (y:Int)))):=HK3.out.of_block (HB33.out.block _ (by omega))
  exact HROOT.out w3.heap.size W3 HBW.out HK4.out HAr4.out HLc.out HRc.out (by omega) _ (by assumption))
theorem Ow (q n d b s g B:Nat) (D:Nat->Nat->List Int) (M0:Nat->Nat->Option (List Int)) (ok:SpgOk q n d) (hD:∀ a b,Dgst q (D a b)) {x y:Nat} (h:Rdy q n D M0 x y) (hxy:x<=y) (hy:y<=1000000):Mn q n d b s g B D M0 x y:=by
 induction h with
 | @found x y hf =>
  intro M w hs hw hM h0 hsn;obtain⟨dl,hdl⟩:=Option.ne_none_iff_exists'.1 (h0 x y hf);have:=hsn x y dl hdl;subst this;refine (Jb s g B x y (D x y) M w hw hM (by omega) hy hdl).mono ?_;rintro e w' ⟨rfl,hb⟩;exact⟨rfl,⟨M,hM.below hb hM.lt,hsn,fun _ _ h=>h,fun _ _ h=>.inl h,by rw[hdl];simp⟩,qJ hb⟩
 | @node x y h2 hDe _ _ ih1 ih2 =>
  intro M w hs hw hM h0 hsn;obtain⟨_,l2,l3⟩:=zJ (y-x);have l3':=l3 h2;cases hd:M x y with
  | some dl =>
   have:=hsn x y dl hd;subst this;refine (Jb s g B x y (D x y) M w hw hM (by omega) hy hd).mono ?_;rintro e w' ⟨rfl,hb⟩;exact⟨rfl,⟨M,hM.below hb hM.lt,hsn,fun _ _ h=>h,fun _ _ h=>.inl h,by rw[hd];simp⟩,qJ hb⟩
  | none=>exact aAW q n d b s g B x y (y-x) (x+lft (y-x)) D M0 M w ok hD hs hw hM (by omega) hy (by omega) rfl h2 hd h0 hsn hDe (ih1 (by omega) (by omega)) (ih2 (by omega) hy)
theorem Mo{t:TypeId} (h:W.heap[O]?=some (.cells #[a,b,c] t (0,0))):W.cell? ⟨O,0,none⟩=some a:=by simp[World.cell?,h]
theorem Qt{t:TypeId} (h:W.heap[O]?=some (.cells #[a,b,c] t (0,0))):W.cell? ⟨O,1,none⟩=some b:=by simp[World.cell?,h]
theorem Mp{t:TypeId} (h:W.heap[O]?=some (.cells #[a,b,c] t (0,0))):W.cell? ⟨O,2,none⟩=some c:=by simp[World.cell?,h]
def okb (N:Int) (root ps:List Int) (rows nodes:List (List Int)):Prop:=1<=N/\N<=65536/\root.length=4/\Jp N.toNat ps rows nodes
theorem Xq (s c4 cp cr cn:Nat) (a4 ap ar an':Option Addr) (root:List Int) (N:Int) (ps:List Int) (rows nodes:List (List Int)) (w:World) (hN1:-9223372036854775808<=N) (hN2:N<=9223372036854775807) (hpl:ps.length<=281474976710656) (hnl:nodes.length<=281474976710656) (hp:Lst w.heap.size w ap cp ps) (hn:LstR w.heap.size w an' cn nodes) (hno:¬ okb N root ps rows nodes) :
  Calls Tryz.prog 134 #[.pointer (some ⟨s,0,none⟩),.slice a4 root.length c4,.int .i64 N,.agg #[.slice ap ps.length cp,.slice ar rows.length cr,.slice an' nodes.length cn]] w fun e w'=>e=.returned (.tuple #[.pointer none,.bool false])/\Below w.heap.size w w':=by
 have HB0:Hid (Below w.heap.size w (w.alloc (.cells #[.slice ap ps.length cp,.slice ar rows.length cr,.slice an' nodes.length cn] 51))):=(Below.refl _ _).alloc (Nat.le_refl _) _;have HO:=hid (Hq (Di w 51 (.slice ap ps.length cp) (.slice ar rows.length cr) (.slice an' nodes.length cn)));have HNO:=hid hno;have HL:=hid hp;have HNL:=hid hn;have HI:=hid (fun W=>Fh N W);have HD:=hid (fun W=>Dl a4 root.length c4 W);clear hno hp hn;by_cases hsz:1<=N/\N<=65536
 ·have hb:(decide (1<=N) && decide (N<=65536))=true:=by simp;exact hsz
  rw[hb] at HI;obtain⟨M,rfl⟩:=Int.eq_ofNat_of_zero_le (show 0<=N by omega);by_cases h4:root.length=4
  ·rw[decide_eq_true h4,h4] at HD;rw[h4]
   have HS:Hid (∀ W,Below w.heap.size w W->Calls Tryz.prog 164 #[.agg #[.int .i64 0,.int .i64 (M:Int)],.agg #[.slice ap ps.length cp,.slice ar rows.length cr,.slice an' nodes.length cn]] W fun e w'=>e=.returned (.bool false)/\Below W.heap.size W w'):=fun W h=>by
    refine (Ja M cp cr cn ap ar an' ps rows nodes W (by omega) (by omega) hpl hnl ((HL.out.below h).mono h.size) ((HNL.out.below h).mono h.size)).mono ?_;rintro e w' ⟨⟨t,rfl,ht⟩,hb⟩;refine⟨?_,hb⟩;cases t with
    | false=>rfl
    | true=>exact absurd ⟨hsz.1,hsz.2,h4,by rw[Int.toNat_natCast];exact ht.1 rfl⟩ HNO.out
   clear h4 hb;go_enter Tryz.func134,Tryz.ntmps134;go_wp2_with fail;generalize w.alloc (.cells #[.slice ap ps.length cp,.slice ar rows.length cr,.slice an' nodes.length cn] 51)=W0 at *;refine (HI.out W0).mono ?_;rintro e w1 ⟨rfl,rfl⟩;go_wp2_with fail;refine (HD.out w1).mono ?_;rintro e w2 ⟨rfl,rfl⟩;have k0:=Mo HO.out;have k1:=Qt HO.out;have k2:=Mp HO.out;go_wp2_with fail;refine (HS.out w2 HB0.out).mono ?_;rintro e w3 ⟨rfl,hb3⟩;have HB3:Hid (Below w.heap.size w w3):=HB0.out.trans (hb3.mono HB0.out.size);clear hb3;go_wp2_with fail;go_ret2;exact⟨rfl,HB3.out⟩
  ·rw[decide_eq_false h4] at HD;clear h4 hb;go_enter Tryz.func134,Tryz.ntmps134;go_wp2_with fail;generalize w.alloc (.cells #[.slice ap ps.length cp,.slice ar rows.length cr,.slice an' nodes.length cn] 51)=W0 at *;refine (HI.out W0).mono ?_;rintro e w1 ⟨rfl,rfl⟩;go_wp2_with fail;refine (HD.out w1).mono ?_;rintro e w2 ⟨rfl,rfl⟩;go_wp2_with fail;go_ret2;exact⟨rfl,HB0.out⟩
 ·have hb:(decide (1<=N) && decide (N<=65536))=false:=by rw[Bool.eq_false_iff];intro h;simp at h;exact hsz h
  rw[hb] at HI;clear hsz hb;go_enter Tryz.func134,Tryz.ntmps134;go_wp2_with fail;generalize w.alloc (.cells #[.slice ap ps.length cp,.slice ar rows.length cr,.slice an' nodes.length cn] 51)=W0 at *;refine (HI.out W0).mono ?_;rintro e w1 ⟨rfl,rfl⟩;go_wp2_with fail;go_ret2;exact⟨rfl,HB0.out⟩
theorem aE2 (n:Nat) (a b:Int) (w:World):(Op.equalIn (n+1) 3 (.int .i64 a) (.int .i64 b)).run Tryz.prog w=.ok (a==b) w:=by
 simp[Op.equalIn,run_underlying Tryz.underlying3,Result.andThen]
theorem Hd (cs:Array Value) (i:Nat) (v:Value) (h:cs[i]?=some v) (w:World):(part 3 cs i).run Tryz.prog w=.ok v w:=by
 simp[part,Tryz.isAgg3,h,Result.andThen]
theorem aE3 (a0 a1 a2 a3 b0 b1 b2 b3:Int) (w:World):(Op.equalIn 10000 175 (.agg #[.int .i64 a0,.int .i64 a1,.int .i64 a2,.int .i64 a3]) (.agg #[.int .i64 b0,.int .i64 b1,.int .i64 b2,.int .i64 b3])).run Tryz.prog w=.ok (a0==b0 && (a1==b1 && (a2==b2 && a3==b3))) w:=by
 have e:∀ (x y:Int),(Op.equalIn 9999 3 (.int .i64 x) (.int .i64 y)).run Tryz.prog w=.ok (x==y) w:=fun x y=>aE2 9998 x y w;rw[show (10000:Nat)=9999+1 from rfl];unfold Op.equalIn;simp only[Sem.run_bind,run_underlying Tryz.underlying175,Result.andThen_ok,Tryz.sizeOf3];have p0:∀ (x0 x1 x2 x3:Value),(part 3 #[x0,x1,x2,x3] (0*1)).run Tryz.prog w=.ok x0 w:=fun x0 x1 x2 x3=>Hd _ _ _ rfl w;have p1:∀ (x0 x1 x2 x3:Value),(part 3 #[x0,x1,x2,x3] (1*1)).run Tryz.prog w=.ok x1 w:=fun x0 x1 x2 x3=>Hd _ _ _ rfl w;have p2:∀ (x0 x1 x2 x3:Value),(part 3 #[x0,x1,x2,x3] (2*1)).run Tryz.prog w=.ok x2 w:=fun x0 x1 x2 x3=>Hd _ _ _ rfl w;have p3:∀ (x0 x1 x2 x3:Value),(part 3 #[x0,x1,x2,x3] (3*1)).run Tryz.prog w=.ok x3 w:=fun x0 x1 x2 x3=>Hd _ _ _ rfl w;rw[Std.Legacy.Range.forIn_eq_forIn_range'];show ((Sem.run Tryz.prog (forIn [0,1,2,3] _ _) w).andThen _)=_;simp only[List.forIn_cons,List.forIn_nil,Sem.run_bind,p0,e,Result.andThen_ok];cases h0:(a0==b0) <;> cases h1:(a1==b1) <;> cases h2:(a2==b2) <;> cases h3:(a3==b3) <;> simp[h1,h2,h3,p1,p2,p3,e,Result.andThen]
theorem aE4{x y:List Int} (hx:x.length=4) (hy:y.length=4):(zat x 0==zat y 0 && (zat x 1==zat y 1 && (zat x 2==zat y 2 && zat x 3==zat y 3)))=decide (x=y):=by
 obtain⟨a0,a1,a2,a3,rfl⟩:∃ a0 a1 a2 a3,x=[a0,a1,a2,a3]:=by
  match x,hx with
  | [a0,a1,a2,a3],_=>exact⟨a0,a1,a2,a3,rfl⟩
 obtain⟨b0,b1,b2,b3,rfl⟩:∃ b0 b1 b2 b3,y=[b0,b1,b2,b3]:=by
  match y,hy with
  | [b0,b1,b2,b3],_=>exact⟨b0,b1,b2,b3,rfl⟩
 rw[Bool.eq_iff_iff];simp[zat]
theorem aE5{x y:List Int} (hx:x.length=4) (hy:y.length=4) (w:World):(Op.equalIn 10000 175 (.agg #[.int .i64 (zat x 0),.int .i64 (zat x 1),.int .i64 (zat x 2),.int .i64 (zat x 3)]) (.agg #[.int .i64 (zat y 0),.int .i64 (zat y 1),.int .i64 (zat y 2),.int .i64 (zat y 3)])).run Tryz.prog w=.ok (decide (x=y)) w:=by
 rw[aE3,aE4 hx hy]
theorem Zz:∀ (l:List (Nat × Nat)) (k:Nat),k<l.length->(Dc l)[k*2]?=some (.int .i64 ((l.getD k (0,0)).1:Int))/\(Dc l)[k*2+1]?=some (.int .i64 ((l.getD k (0,0)).2:Int))
 | [],_,h=>by simp at h
 | g :: l,0,_=>by simp[Dc]
 | g :: l,k+1,h=>by have:=Zz l k (by simpa using h);simp only[Dc,List.flatMap_cons] at this ⊢;rw[show (k+1)*2=(k*2)+2 by omega,show (k*2)+2+1=(k*2+1)+2 by omega];simpa using this
theorem Mq{base:Nat}{l:List (Nat × Nat)} (h:OwnG base w v l) {k:Nat} (hk:k<l.length):∃ gv,v=.slice (some ⟨gv,0,none⟩) l.length (match v with | .slice _ _ c=>c | _=>0)/\base<=gv/\gv<w.heap.size/\w.cell? ⟨gv,k*2,none⟩=some (.int .i64 ((l.getD k (0,0)).1:Int))/\w.cell? ⟨gv,k*2+1,none⟩=some (.int .i64 ((l.getD k (0,0)).2:Int)):=by
 rcases h.2 with ⟨_,h0⟩ | ⟨g,cap,cur,rfl,hb,hg,hn,hm,hs,ht⟩
 ·omega
 ·obtain⟨e1,e2⟩:=Zz l k hk;rw[<- ht,List.getElem?_take,if_pos (by omega)] at e1 e2;refine⟨g,rfl,hb,(Array.getElem?_eq_some_iff.1 hg).1,?_,?_⟩
  ·simp only[World.cell?,hg];simpa using e1
  ·simp only[World.cell?,hg];simpa using e2
structure CkW (w:World) (g B s:Nat) (opn:Array Value) (W:World) (M:Nat->Nat->Option (List Int)):Prop where
 below:Below w.heap.size w W
 opn:W.heap[w.heap.size]?=some (.cells opn 51 (0,0))
 wlk:WlkAt W g B s
 map:MapIs W B M
theorem CkW.gb{opn:Array Value}{M M':Nat->Nat->Option (List Int)} (h:CkW w g B s opn W M) (hB:w.heap.size<B) (e:W.grownBy W' (some B)) (hM:MapIs W' B M'):CkW w g B s opn W' M':=by
 have hBg:g≠B:=fun e'=>by obtain⟨es,ck,h1,_⟩:=h.map;have h2:=h.wlk;unfold WlkAt at h2;rw[e',h1] at h2;cases h2
 refine⟨⟨e.os.trans h.below.os,e.tape.trans h.below.tape,e.output.trans h.below.output,Nat.le_trans h.below.size e.size,fun k hk=>(qY e (by have:=h.below.size;omega) (by omega)).trans (h.below.block k hk)⟩,(qY e (Array.getElem?_eq_some_iff.1 h.opn).1 (by omega)).trans h.opn,h.wlk.block (qY e h.wlk.lt hBg),hM⟩
theorem CkW.bl{opn:Array Value}{M:Nat->Nat->Option (List Int)} (h:CkW w g B s opn W M) (e:Below W.heap.size W W'):CkW w g B s opn W' M :=
 ⟨h.below.trans (e.mono h.below.size),(e.block _ (Array.getElem?_eq_some_iff.1 h.opn).1).trans h.opn,h.wlk.block (e.block _ h.wlk.lt),h.map.below e h.map.lt⟩
def aAa (q n N:Nat) (ps:List Int) (rows nodes:List (List Int)) (w:World) (g B s:Nat) (w':World):Prop :=
 w.heap.size<B/\WlkAt w' g B s/\Below w.heap.size w w'/\∃ M',MapIs w' B M'/\Snd M' (DV q n (M0 q n N ps rows nodes))/\ClM (M0 q n N ps rows nodes) M'/\M' 0 N≠none
theorem CkW.done{q n N:Nat}{ps:List Int}{rows nodes:List (List Int)}{opn:Array Value} (hB:w.heap.size<B) (h:∃ M',CkW w g B s opn W M'/\Snd M' (DV q n (M0 q n N ps rows nodes))/\ClM (M0 q n N ps rows nodes) M'/\M' 0 N≠none):aAa q n N ps rows nodes w g B s W:=by
 obtain⟨M',h1,h2,h3,h4⟩:=h;exact⟨hB,h1.wlk,h1.below,M',h1.map,h2,h3,h4⟩
theorem Ue (q n d b s c4 cp cr cn:Nat) (a4 ap ar an':Option Addr) (root:List Int) (N:Nat) (ps:List Int) (rows nodes:List (List Int)) (w:World) (hs1:1<=N) (hs2:N<=65536) (h4:root.length=4) (hsh:Jp N ps rows nodes) (ok:SpgOk q n d) (hs:SpgAt w s b q n d) (hpl:ps.length<=281474976710656) (hnl:nodes.length<=281474976710656) (hf4:Fits root) (hfp:Fits ps) (hfr:Ak rows) (hfn:Ak nodes) (hl4:Lst w.heap.size w a4 c4 root) (hp:Lst w.heap.size w ap cp ps) (hr:LstR w.heap.size w ar cr rows) (hn:LstR w.heap.size w an' cn nodes) :
  Calls Tryz.prog 134 #[.pointer (some ⟨s,0,none⟩),.slice a4 root.length c4,.int .i64 (N:Int),.agg #[.slice ap ps.length cp,.slice ar rows.length cr,.slice an' nodes.length cn]] w fun e w'=>∃ g B,e=.returned (.tuple #[.pointer (some ⟨g,0,none⟩),.bool (decide (DV q n (M0 q n N ps rows nodes) 0 N=elr q root))])/\aAa q n N ps rows nodes w g B s w':=by
 have HB0:Hid (Below w.heap.size w (w.alloc (.cells #[.slice ap ps.length cp,.slice ar rows.length cr,.slice an' nodes.length cn] 51))):=(Below.refl _ _).alloc (Nat.le_refl _) _;have HO:=hid (Hq (Di w 51 (.slice ap ps.length cp) (.slice ar rows.length cr) (.slice an' nodes.length cn)));have HSH:=hid hsh;have HL:=hid hp;have HNL:=hid hn;have HI:=hid (fun W=>Fh (N:Int) W);rw[show (decide (1<=(N:Int)) && decide ((N:Int)<=65536))=true by simp;omega] at HI;have HD:=hid (fun W=>Dl a4 root.length c4 W);rw[decide_eq_true h4,h4] at HD;rw[h4]
 have HS:Hid (∀ W,Below w.heap.size w W->Calls Tryz.prog 164 #[.agg #[.int .i64 0,.int .i64 (N:Int)],.agg #[.slice ap ps.length cp,.slice ar rows.length cr,.slice an' nodes.length cn]] W fun e w'=>e=.returned (.bool true)/\Below W.heap.size W w'):=fun W h=>by refine (Ja N cp cr cn ap ar an' ps rows nodes W hs1 hs2 hpl hnl ((HL.out.below h).mono h.size) ((HNL.out.below h).mono h.size)).mono ?_;rintro e w' ⟨⟨t,rfl,ht⟩,hb⟩;exact⟨by rw[ht.2 HSH.out],hb⟩
 clear hsh hp hn;go_enter Tryz.func134,Tryz.ntmps134;go_wp2_with fail;generalize w.alloc (.cells #[.slice ap ps.length cp,.slice ar rows.length cr,.slice an' nodes.length cn] 51)=W0 at *;refine (HI.out W0).mono ?_;rintro e w1 ⟨rfl,rfl⟩;go_wp2_with fail;refine (HD.out w1).mono ?_;rintro e w2 ⟨rfl,rfl⟩;have k0:=Mo HO.out;have k1:=Qt HO.out;have k2:=Mp HO.out;go_wp2_with fail;refine (HS.out w2 HB0.out).mono ?_;rintro e w3 ⟨rfl,hb3⟩;have HB3:Hid (Below w.heap.size w w3):=HB0.out.trans (hb3.mono HB0.out.size);have HO3:Hid (w3.heap[w.heap.size]?=some (.cells #[.slice ap ps.length cp,.slice ar rows.length cr,.slice an' nodes.length cn] 51 (0,0))):=(hb3.block _ (Array.getElem?_eq_some_iff.1 HO.out).1).trans HO.out;clear hb3;have HNW:=hid (Ji s w3);go_wp2_with fail;refine HNW.out.mono ?_;rintro e w4 ⟨rfl,hwl,hmp,hsz,hb4⟩;have HCK:Hid (CkW w (w3.heap.size+1) w3.heap.size s #[.slice ap ps.length cp,.slice ar rows.length cr,.slice an' nodes.length cn] w4 (fun _ _=>none)):=⟨HB3.out.trans (hb4.mono HB3.out.size),(hb4.block _ (Array.getElem?_eq_some_iff.1 HO3.out).1).trans HO3.out,hwl,hmp⟩
 have hB1:w.heap.size<w3.heap.size:=(Array.getElem?_eq_some_iff.1 HO3.out).1;have hB2:w4.heap.size=w3.heap.size+2:=hsz;have k0':=Mo HCK.out.opn;clear hwl hmp hb4 hsz HB3 HO3 HNW HS HD HI HO HB0 k0 k1 k2
 have HHI:Hid (∀ W,Below w4.heap.size w4 W->Calls Tryz.prog 126 #[.agg #[.int .i64 0,.int .i64 (N:Int)],.slice ap ps.length cp] W fun e w'=>∃ v,e=.returned v/\OwnG w4.heap.size w' v (hd2 ps N 0 N)/\Below w4.heap.size w4 w'):=fun W h=>by
  have hsg:=Qs (N:=N) (ps:=ps) (fun x hx=>by
   obtain⟨j,hj,rfl⟩:=Pw hx;have:=HSH.out.2.1 j hj
   omega)
  have hbw:=HCK.out.below.trans (h.mono HCK.out.below.size);have:=Dd ps (Rp HSH.out.2.1) N 0 N hs1 (Nat.le_refl _) (by omega) cp ap W (by rw[hsg];exact (HL.out.below hbw).mono hbw.size);rw[hsg,Nat.zero_add] at this;refine this.mono ?_;rintro e w5 ⟨v,rfl,hov,hb5⟩;exact⟨v,rfl,hov.mono h.size,h.trans (hb5.mono h.size)⟩
 go_wp2_with fail;refine (HHI.out w4 (Below.refl _ _)).mono ?_;rintro e w5 ⟨v,rfl,hov,hb5⟩;have HOV:=hid hov;have HCK5:=hid (HCK.out.bl hb5);have hs5:=hb5.size;obtain⟨hl,hhl⟩:=exE ((hd2 ps N 0 N).length);have HHL:=hid hhl
 obtain⟨av,c5,rfl⟩:∃ av c5,v=.slice av hl c5:=by
  rcases hov.2 with ⟨rfl,h0⟩ | ⟨g5,c5,_,rfl,_⟩
  ·exact⟨none,0,by rw[hhl,h0]⟩
  ·exact⟨_,_,by rw[hhl]⟩
 have hll:hl<=65536:=by have:=Er ps N 0 N hs1 (Nat.le_refl _);omega
 have HCEL:Hid (∀ (W:World),w5.grownBy W (some w3.heap.size)->∀ k,k<hl->∃ gv,av=some ⟨gv,0,none⟩/\W.cell? ⟨gv,k*2,none⟩=some (.int .i64 (((hd2 ps N 0 N).getD k (0,0)).1:Int))/\W.cell? ⟨gv,k*2+1,none⟩=some (.int .i64 (((hd2 ps N 0 N).getD k (0,0)).2:Int))):=fun W hW k hk=>by rw[hhl] at hk;obtain⟨gv,e1,e2,e3,e4,e5⟩:=Mq HOV.out hk;simp only[Value.slice.injEq] at e1;exact⟨gv,e1.1,(Ay hW (p:=⟨gv,k*2,none⟩) e3 (by show gv≠_;omega)).trans e4,(Ay hW (p:=⟨gv,k*2+1,none⟩) e3 (by show gv≠_;omega)).trans e5⟩
 clear hov hb5 hhl HCK HHI k0';have h3:3<=q:=by have:=ok.h23;omega
 have hm:=ok.hm;have HSP:=hid hs;have HFN:=hid hfn;have HOKK:=hid ok;have HRL:=hid hr;have HFR:=hid hfr;have HL4:=hid hl4;have HF4:=hid hf4;have HFP:=hid hfp;clear hs hfn ok hr hfr hl4 hf4 hfp;generalize w3.heap.size=B at *;go_wp2_with fail;go_loopw [38] (fun iv wr=>∃ k:Nat,k<=hl/\iv=.int .i64 k/\Hid (CkW w (B+1) B s #[.slice ap ps.length cp,.slice ar rows.length cr,.slice an' nodes.length cn] wr (Eg (L1 q (hd2 ps N 0 N) nodes k))/\w5.grownBy wr (some B))) (fun iv _=>hl-(intOf iv).toNat)
 case atStart=>exact⟨0,by omega,rfl,HCK5.out,yZ _ _⟩
 case round =>
  obtain⟨k,hk,rfl,hC⟩:=hrel;by_cases hlt:k<hl
  ·have hlt2:(k:Int)<(hl:Int):=by omega
   have hks:IntKind.i64.wrap ((k:Int)+1)=(k:Int)+1:=by rw[IntKind.wrap_i64];omega
   obtain⟨gv,rfl,hcv1,hcv2⟩:=HCEL.out wr hC.out.2 k hlt;have hkn:k<nodes.length:=by rw[HSH.out.2.2.2,<- HHL.out];exact hlt
   have hkn2:(k:Int)<(nodes.length:Int):=by omega
   obtain⟨bn,on,ak,ck,hae,hbn,hcn,hln⟩:=HNL.out.row k hkn;subst hae;have h4k:=HSH.out.2.2.1 k hkn;rw[h4k] at hcn;have hhd:=Vi (ps:=ps) hs1 (show k<(hd2 ps N 0 N).length by rw[<- HHL.out];exact hlt);have HMS:Hid (Eg (L1 q (hd2 ps N 0 N) nodes (k+1))=upd (Eg (L1 q (hd2 ps N 0 N) nodes k)) ((hd2 ps N 0 N).getD k (0,0)).1 ((hd2 ps N 0 N).getD k (0,0)).2 (elr q (rat nodes k))):=by unfold Hid;rw[aEM,Ph]
   obtain⟨ga,hga⟩:=exE (((hd2 ps N 0 N).getD k (0,0)).1);obtain⟨gb,hgb⟩:=exE (((hd2 ps N 0 N).getD k (0,0)).2);rw[<- hga,<- hgb] at HMS hhd;rw[<- hga] at hcv1;rw[<- hgb] at hcv2;have HCW:=hid (hC.out.1.bl ((Below.refl _ _).alloc (Nat.le_refl _) (.cells #[.int .i64 (ga:Int),.int .i64 (gb:Int)] 163)));have HG1:Hid (w5.grownBy (wr.alloc (.cells #[.int .i64 (ga:Int),.int .i64 (gb:Int)] 163)) (some B)):=qX hC.out.2 (World.grownBy_alloc _ _ _);have HLg:=hid (Ai wr 163 (.int .i64 (ga:Int)) (.int .i64 (gb:Int)));have hBr:B<wr.heap.size:=hC.out.1.map.lt;clear hC hga hgb ;go_wp2_with fail;generalize wr.alloc (.cells #[.int .i64 (ga:Int),.int .i64 (gb:Int)] 163)=W1 at *
   have HKe:Hid (∀ W,Below W1.heap.size W1 W->W.cell? ⟨B+1,1,none⟩=some (.map (some B))/\W.cell? ⟨wr.heap.size,0,none⟩=some (.int .i64 (ga:Int))/\W.cell? ⟨wr.heap.size,1,none⟩=some (.int .i64 (gb:Int))/\W.cell? ⟨w.heap.size,2,none⟩=some (.slice (some ⟨bn,on,none⟩) nodes.length cn)/\W.cell? ⟨bn,on+k,none⟩=some (.slice ak 4 ck)):=fun W h=>by have hc:=HCW.out.bl h;exact⟨hc.wlk.c1,(h.cell (p:=⟨wr.heap.size,0,none⟩) HLg.out.lt).trans (HLg.out.cell (i:=0) (by omega)),(h.cell (p:=⟨wr.heap.size,1,none⟩) HLg.out.lt).trans (HLg.out.cell (i:=1) (by omega)),Mp hc.opn,(hc.below.cell (p:=⟨bn,on+k,none⟩) hbn).trans hcn⟩
   have HFd:Hid (∀ W,Below W1.heap.size W1 W->Calls Tryz.prog 6 #[.pointer (some ⟨s,0,none⟩)] W fun e w'=>e=.returned (.pointer (some ⟨b,0,none⟩))/\w'=W):=fun W h=>zK q n d b s W (HSP.out.keep (HCW.out.bl h).below)
   have HDg:Hid (∀ W,Below W1.heap.size W1 W->Calls Tryz.prog 165 #[.pointer (some ⟨b,0,none⟩),.slice ak 4 ck] W fun e w'=>e=.returned (d4 (elr q (rat nodes k)))/\Below W1.heap.size W1 w'/\∃ w2,(Instr.mapUpdate 196 (.map (some B)) (.agg #[.int .i64 (ga:Int),.int .i64 (gb:Int)]) (d4 (elr q (rat nodes k)))).run Tryz.prog w'=.ok () w2/\(w2.cell? ⟨B+1,1,none⟩=some (.map (some B))/\w2.cell? ⟨wr.heap.size,0,none⟩=some (.int .i64 (ga:Int))/\w2.cell? ⟨wr.heap.size,1,none⟩=some (.int .i64 (gb:Int))/\w2.cell? ⟨w.heap.size,2,none⟩=some (.slice (some ⟨bn,on,none⟩) nodes.length cn)/\w2.cell? ⟨bn,on+k,none⟩=some (.slice ak 4 ck))/\Hid (CkW w (B+1) B s #[.slice ap ps.length cp,.slice ar rows.length cr,.slice (some ⟨bn,on,none⟩) nodes.length cn] w2 (Eg (L1 q (hd2 ps N 0 N) nodes (k+1)))/\w5.grownBy w2 (some B))):=fun W h=>by
    have hc:=HCW.out.bl h;refine (Dm q b ck ak (rat nodes k) W h3 hm (HSP.out.keep hc.below).p h4k (HFN.out k hkn).1 ((hln.row.below hc.below).mono hc.below.size)).mono ?_;rintro e w' ⟨rfl,hb'⟩;have h':=h.trans (hb'.mono h.size);have hc':=HCW.out.bl h';have hk':=HKe.out w' h';obtain⟨w2,r1,r2,r3⟩:=hc'.map.update (a:=ga) (b:=gb) (by omega) (by omega) (elr q (rat nodes k));have hca:=hc'.gb hB1 r3 r2;have ed:an 4 (fun j=>zat (rat nodes k) j % (q:Int))=an 4 (zat (elr q (rat nodes k))):=Le (fun j hj=>by unfold elr;rw[kZ _ _ _ (by omega)]);have hne:∀ (p:Addr),p.block<w'.heap.size->p.block≠B->w2.cell? p=w'.cell? p:=fun p h1 h2=>Ay r3 h1 h2;have hs':=h'.size;have hlg:=HLg.out.lt;refine⟨by rw[ed,an4];rfl,h',w2,?_,⟨hca.wlk.c1,(hne ⟨wr.heap.size,0,none⟩ (by show wr.heap.size<_;omega) (by show wr.heap.size≠_;omega)).trans hk'.2.1,(hne ⟨wr.heap.size,1,none⟩ (by show wr.heap.size<_;omega) (by show wr.heap.size≠_;omega)).trans hk'.2.2.1,Mp hca.opn,(hca.below.cell (p:=⟨bn,on+k,none⟩) hbn).trans hcn⟩,?_,qX (qX HG1.out (qJ h')) r3⟩
    ·rw[an4] at r1;exact r1
    ·rw[HMS.out];exact hca
   have hd1:Below W1.heap.size W1 W1.drew:=(Below.refl _ _).drew
   go_region_held3 (fun W=>W.cell? ⟨B+1,1,none⟩=some (.map (some B))/\W.cell? ⟨wr.heap.size,0,none⟩=some (.int .i64 (ga:Int))/\W.cell? ⟨wr.heap.size,1,none⟩=some (.int .i64 (gb:Int))/\W.cell? ⟨w.heap.size,2,none⟩=some (.slice (some ⟨bn,on,none⟩) nodes.length cn)/\W.cell? ⟨bn,on+k,none⟩=some (.slice ak 4 ck)) (first | assumption | exact HKe.out _ (by assumption))
    (first
     | (go_at_call 6;refine (HFd.out _ (by assumption)).mono ?_;rintro e w' ⟨rfl,rfl⟩)
     | (go_at_call 165;refine (HDg.out _ (by assumption)).mono ?_;unfold d4;rintro e w' ⟨rfl,hbd,w2,hrun,hS2,hE⟩))
   go_wp2_with fail;go_roundw
   case rel=>exact⟨k+1,by omega,by go_num,hE⟩
   case measure=>simp[intOf];omega
  ·obtain rfl:k=hl:=by omega
   have HC1:=hC;have k0':=Mo hC.out.1.opn;clear hC;go_wp2_with fail;go_loopw [60] (fun iv wt=>∃ j:Nat,j<=ps.length/\iv=.int .i64 j/\Hid (CkW w (B+1) B s #[.slice ap ps.length cp,.slice ar rows.length cr,.slice an' nodes.length cn] wt (Eg (L1 q (hd2 ps N 0 N) nodes k++L2 q n ps rows j)))) (fun iv _=>ps.length-(intOf iv).toNat)
   case atStart=>exact⟨0,by omega,rfl,by show CkW _ _ _ _ _ _ (Eg (_++[]));rw[List.append_nil];exact HC1.out.1⟩
   case round =>
    obtain⟨j,hj,rfl,hD⟩:=hrel;by_cases hlt3:j<ps.length
    ·have hlt4:(j:Int)<(ps.length:Int):=by omega
     have hks:IntKind.i64.wrap ((j:Int)+1)=(j:Int)+1:=by rw[IntKind.wrap_i64];omega
     have hjr:j<rows.length:=by rw[HSH.out.1];exact hlt3
     have hjr2:(j:Int)<(rows.length:Int):=by omega
     obtain⟨bp,op,hae,hbp,hcp⟩:=HL.out.row j hlt3;subst hae;obtain⟨br,or',ak,ck,hae,hbr,hcr,hlr⟩:=HRL.out.row j hjr;subst hae;have hzz:=HSH.out.2.1 j hlt3;obtain⟨x,hx⟩:∃ x:Nat,zat ps j=(x:Int):=⟨(zat ps j).toNat,by omega⟩
     rw[hx] at hcp;have hxl:x<=1000000:=by omega
     have c1:=(hD.out.below.cell (p:=⟨bp,op+j,none⟩) hbp).trans hcp;have c2:=(hD.out.below.cell (p:=⟨br,or'+j,none⟩) hbr).trans hcr;have c3:=Qt hD.out.opn
     have HMS:Hid (Eg (L1 q (hd2 ps N 0 N) nodes k++L2 q n ps rows (j+1))=upd (Eg (L1 q (hd2 ps N 0 N) nodes k++L2 q n ps rows j)) x (x+1) (digl q n (0 :: rat rows j))):=by unfold Hid;rw[aEN,<- List.append_assoc,Ph,hx,Int.toNat_natCast]
     have HSR:=hid (Ml q n d b s (B+1) B ck x ak (rat rows j) _ wr HOKK.out (HSP.out.keep hD.out.below) hD.out.wlk hD.out.map hxl (by have:=(HFR.out j hjr).2;omega) (HFR.out j hjr).1 ((hlr.below hD.out.below).mono hD.out.below.size));have HCW:=hD;clear hD hcp hcr hzz hx hlr;go_wp2_with fail;refine HSR.out.mono ?_;rintro e w6 ⟨rfl,hmp6,hgb6⟩
     have HE:Hid (CkW w (B+1) B s #[.slice (some ⟨bp,op,none⟩) ps.length cp,.slice (some ⟨br,or',none⟩) rows.length cr,.slice an' nodes.length cn] w6 (Eg (L1 q (hd2 ps N 0 N) nodes k++L2 q n ps rows (j+1)))):=by unfold Hid;rw[HMS.out];exact HCW.out.gb hB1 hgb6 hmp6
     clear hmp6 hgb6;go_wp2_with fail;go_roundw
     case rel=>exact⟨j+1,by omega,by go_num,HE⟩
     case measure=>simp[intOf];omega
    ·have hje:j=ps.length:=by omega
     have HC2:Hid (CkW w (B+1) B s #[.slice ap ps.length cp,.slice ar rows.length cr,.slice an' nodes.length cn] wr (M0 q n N ps rows nodes)):=by have:=hD.out;rw[hje,HHL.out] at this;exact this
     have hlt5:¬ (j:Int)<(ps.length:Int):=by omega
     clear hD hlt3 hj hje;have hDv:=aEL (q:=q) (n:=n) (M:=M0 q n N ps rows nodes) h3 (fun a b dd h=>aEQ h3 (Rq HSH.out) a b dd h)
     have HRT:Hid (Calls Tryz.prog 128 #[.pointer (some ⟨B+1,0,none⟩),.agg #[.int .i64 0,.int .i64 (N:Int)]] wr.drew fun e w'=>e=.returned (d4 (DV q n (M0 q n N ps rows nodes) 0 N))/\Hid (∃ M',CkW w (B+1) B s #[.slice ap ps.length cp,.slice ar rows.length cr,.slice an' nodes.length cn] w' M'/\Snd M' (DV q n (M0 q n N ps rows nodes))/\ClM (M0 q n N ps rows nodes) M'/\M' 0 N≠none)):=by have hcd:CkW w (B+1) B s #[.slice ap ps.length cp,.slice ar rows.length cr,.slice an' nodes.length cn] wr.drew (M0 q n N ps rows nodes):=HC2.out.bl (Below.refl _ _).drew;have hroot:=Ow q n d b s (B+1) B (DV q n (M0 q n N ps rows nodes)) (M0 q n N ps rows nodes) HOKK.out hDv (aAu (q:=q) (n:=n) hs1 HSH.out).rdy (Nat.zero_le _) (by omega);refine (hroot (M0 q n N ps rows nodes) wr.drew (HSP.out.keep hcd.below) hcd.wlk hcd.map (fun _ _ h=>h) (fun a b dd h=>(Pg (.found h)).symm)).mono ?_;rintro e w' ⟨rfl,⟨M',g1,g2,g3,g4,g5⟩,hg⟩;exact⟨by rw[an4];rfl,M',hcd.gb hB1 hg g1,g2,g4,g5⟩
     have HFd:Hid (∀ W,Hid (∃ M',CkW w (B+1) B s #[.slice ap ps.length cp,.slice ar rows.length cr,.slice an' nodes.length cn] W M'/\Snd M' (DV q n (M0 q n N ps rows nodes))/\ClM (M0 q n N ps rows nodes) M'/\M' 0 N≠none)->Calls Tryz.prog 6 #[.pointer (some ⟨s,0,none⟩)] W fun e w'=>e=.returned (.pointer (some ⟨b,0,none⟩))/\w'=W):=fun W h=>by obtain⟨M',h1,_⟩:=h.out;exact zK q n d b s W (HSP.out.keep h1.below)
     have HDg:Hid (∀ W,Hid (∃ M',CkW w (B+1) B s #[.slice ap ps.length cp,.slice ar rows.length cr,.slice an' nodes.length cn] W M'/\Snd M' (DV q n (M0 q n N ps rows nodes))/\ClM (M0 q n N ps rows nodes) M'/\M' 0 N≠none)->Calls Tryz.prog 165 #[.pointer (some ⟨b,0,none⟩),.slice a4 4 c4] W fun e w'=>e=.returned (d4 (elr q root))/\Hid (∃ M',CkW w (B+1) B s #[.slice ap ps.length cp,.slice ar rows.length cr,.slice an' nodes.length cn] w' M'/\Snd M' (DV q n (M0 q n N ps rows nodes))/\ClM (M0 q n N ps rows nodes) M'/\M' 0 N≠none)):=fun W h=>by obtain⟨M',h1,h2⟩:=h.out;refine (Dm q b c4 a4 root W h3 hm (HSP.out.keep h1.below).p h4 HF4.out ((HL4.out.row.below h1.below).mono h1.below.size)).mono ?_;rintro e w' ⟨rfl,hb'⟩;have ed:an 4 (fun j=>zat root j % (q:Int))=an 4 (zat (elr q root)):=Le (fun j hj=>by unfold elr;rw[kZ _ _ _ (by omega)]);exact⟨by rw[ed,an4];rfl,M',h1.bl hb',h2⟩
     have hqr:=fun W=>aE5 (hDv 0 N).1 (show (elr q root).length=4 by unfold elr;rw[kQ];exact h4) W;go_wp2_with fail
     go_region_held3 (fun _=>True) (trivial)
      (first
       | (go_at_call 128;refine HRT.out.mono ?_;unfold d4;rintro e w' ⟨rfl,hP6⟩)
       | (go_at_call 6;refine (HFd.out _ (by assumption)).mono ?_;rintro e w' ⟨rfl,rfl⟩)
       | (go_at_call 165;refine (HDg.out _ (by assumption)).mono ?_;unfold d4;rintro e w' ⟨rfl,hP7⟩))
     go_wp2_with fail;go_ret2;exact⟨B+1,B,rfl,CkW.done hB1 hP7.out⟩
end Go.Proofs.YtkdndfbfmchcpaaGreatDoor
