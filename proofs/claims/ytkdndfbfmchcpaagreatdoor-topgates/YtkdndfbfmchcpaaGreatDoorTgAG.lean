
import Derived.Test.YtkdndfbfmchcpaaGreatDoorTgAF
import Derived.Below
set_option maxRecDepth 1000000
set_option maxHeartbeats 8000000
namespace Go.Proofs.YtkdndfbfmchcpaaGreatDoor
open Go.RowKit
theorem ArrI.rowE {w:World} {g n n0:Nat} {t:TypeId} {f:Nat->Int} (h:ArrI w g t n f) {zs:List Int} (hn:zs.length=n) (hz:∀ j,j<n->zat zs j=f j) (hg:g<n0):RowB n0 w (some ⟨g,0,none⟩) zs:=fun k hk=>⟨g,0,rfl,hg,by rw[Nat.zero_add,h.cell (by omega),hz k (by omega)]⟩
theorem ArrI.lst {w:World} {g n n0:Nat} {t:TypeId} {f:Nat->Int} (h:ArrI w g t n f) {zs:List Int} (hn:zs.length=n) (hz:∀ j,j<n->zat zs j=f j) (hg:g<n0):Lst n0 w (some ⟨g,0,none⟩) n zs:=⟨h.rowE hn hz hg,by omega,fun e=>by cases e⟩
section
variable {P:Program} {ops:Array Oper} {Q:Exit->Act->World->Prop} {md:Region.Mode} {S:World->Prop}
theorem Lr {i:Nat} {oi:Oper} {rest:List Oper} (hl:ops.toList.drop i=oi :: rest):ops[i]?=some oi:=by
 have:=congrArg (fun l=>l[0]?) hl;simpa [List.getElem?_drop] using this
theorem Gr {i:Nat} {oi:Oper} {rest:List Oper} {v:Value} {fuel:Nat} {listed:Array Bool} {a:Act} {w:World} (hl:ops.toList.drop i=oi :: rest)
  (hs:Region.noSelect ops=true) (hf:Region.free md ops listed i=true) (hr:(Region.ready md ops listed).contains i=true)
  (hQ:∀ c a w,Q (.panic c) (a.put oi.dst v) w->Q (.panic c) a w) (hw:Region.wanted oi (yielded ops a.tmps)=true) (hy:∀ w,S w->(execOp a.eval oi).run P w=.ok (.value v) w) (hS:S w)
  (h:wpAnyH P md ops Q S fuel (listed.setIfInBounds i true) (a.put oi.dst v) w):wpAnyH P md ops Q S (fuel+1) listed a w :=
 wpAnyH_take (Lr hl) hs hf hr hQ (Or.inl ⟨hw,hy⟩) hS h
theorem tkU (i : Nat) (v : Value) {oi : Oper} {rest : List Oper} {fuel : Nat} {listed : Array Bool} {a : Act} {w : World} (hl : ops.toList.drop i = oi :: rest) (hy : ∀ w, S w → (execOp a.eval oi).run P w = .ok (.value v) w) (hS : S w) (h : wpAnyH P md ops Q S fuel (listed.setIfInBounds i true) (a.put oi.dst v) w)
 (hs : Region.noSelect ops = true := by kernel_rfl) (hf : Region.free md ops listed i = true := by kernel_rfl) (hr : (Region.ready md ops listed).contains i = true := by kernel_rfl) (hQ : ∀ c a w, Q (.panic c) (a.put oi.dst v) w → Q (.panic c) a w := by exact fun _ _ _ h => h) (hw : Region.wanted oi (yielded ops a.tmps) = true := by rfl) : wpAnyH P md ops Q S (fuel + 1) listed a w :=
 Gr hl hs hf hr hQ hw hy hS h
theorem Aa (i : Nat) (v : Value) {oi : Oper} {rest : List Oper} {fuel : Nat} {listed : Array Bool} {a : Act} {w : World} (h : wpAnyH P md ops Q S fuel (listed.setIfInBounds i true) (a.put oi.dst v) w) (hl : ops.toList.drop i = oi :: rest := by rfl) (hy : ∀ w, S w -> (execOp a.eval oi).run P w = .ok (.value v) w := by intro _ _; go_simp) (hS : S w := by exact hHeld)
 (hs : Region.noSelect ops = true := by kernel_rfl) (hf : Region.free md ops listed i = true := by kernel_rfl) (hr : (Region.ready md ops listed).contains i = true := by kernel_rfl) (hQ : ∀ c a w, Q (.panic c) (a.put oi.dst v) w -> Q (.panic c) a w := by exact fun _ _ _ h => h) (hw : Region.wanted oi (yielded ops a.tmps) = true := by rfl) : wpAnyH P md ops Q S (fuel + 1) listed a w :=
 Gr hl hs hf hr hQ hw hy hS h
theorem AllReadyH.consU {fuel:Nat} {listed:Array Bool} {a:Act} {w:World} {i:Nat} {o:Oper} {rest:List Oper} {rs:List Nat} (hl:ops.toList.drop i=o :: rest)
  (h:∀ K':Act->World->Prop,Shut (∀ a w,S w->(S w->wpAnyH P md ops Q S fuel (listed.setIfInBounds i true) a w)->K' a w)->if Region.wanted o (yielded ops a.tmps)=true then Oper.wp P o a w K' Q else K' (a.put o.dst undef) w)
  (hs:AllReadyH P md ops Q S fuel listed a w rs):AllReadyH P md ops Q S fuel listed a w (i :: rs):=AllReadyH.cons (Lr hl) h hs
theorem Ab (i : Nat) {o : Oper} {rest : List Oper} {fuel : Nat} {listed : Array Bool} {a : Act} {w : World} (h : ∀ K' : Act -> World -> Prop, Shut (∀ a w, S w -> (S w -> wpAnyH P md ops Q S fuel (listed.setIfInBounds i true) a w) -> K' a w) -> if Region.wanted o (yielded ops a.tmps) = true then Oper.wp P o a w K' Q else K' (a.put o.dst undef) w) (hl : ops.toList.drop i = o :: rest := by rfl) (hr : Region.ready md ops listed = [i] := by kernel_rfl) : wpAnyH P md ops Q S (fuel + 1) listed a w :=
 wpAnyH_ready hr (by simp) (AllReadyH.consU hl h AllReadyH.nil)
end
theorem xX {o:Oper} {a:Act} {w w2:World} {K:Act->World->Prop} {Q:Exit->Act->World->Prop} (s x:Operand) (tS tX:TypeId)
  (ho:o.op=.call { callee:=.builtin .append,args:=#[s,x],argTypes:=#[tS,tX] }) (v u r:Value) (hs:a.eval s=v) (hx:a.eval x=u) (hrun:(Builtin.append_ #[tS,tX] o.type #[v,u]).run Tryz.prog w=.ok r w2)
  (h:K (a.put o.dst r) w2):Oper.wp Tryz.prog o a w K Q:=by
 unfold Oper.wp;simp[execOp,ho,resolve,invoke,builtin,hs,hx,hrun,Result.andThen];exact h
section
variable {P:Program} {ops:Array Oper} {Q:Exit->Act->World->Prop} {md:Region.Mode} {S:World->Prop}
theorem Gs {i:Nat} {oi:Oper} {rest:List Oper} {fuel:Nat} {listed:Array Bool} {a:Act} {w:World} (hl:ops.toList.drop i=oi :: rest)
  (hs:Region.noSelect ops=true) (hf:Region.free md ops listed i=true) (hr:(Region.ready md ops listed).contains i=true)
  (hQ:∀ c a w,Q (.panic c) (a.put oi.dst undef) w->Q (.panic c) a w) (hw:Region.wanted oi (yielded ops a.tmps)=false) (hS:S w)
  (h:wpAnyH P md ops Q S fuel (listed.setIfInBounds i true) (a.put oi.dst undef) w):wpAnyH P md ops Q S (fuel+1) listed a w :=
 wpAnyH_take (Lr hl) hs hf hr hQ (Or.inr ⟨hw,rfl⟩) hS h
theorem psV (i : Nat) {oi : Oper} {rest : List Oper} {fuel : Nat} {listed : Array Bool} {a : Act} {w : World} (hl : ops.toList.drop i = oi :: rest) (hS : S w) (h : wpAnyH P md ops Q S fuel (listed.setIfInBounds i true) (a.put oi.dst undef) w)
 (hs : Region.noSelect ops = true := by kernel_rfl) (hf : Region.free md ops listed i = true := by kernel_rfl) (hr : (Region.ready md ops listed).contains i = true := by kernel_rfl) (hQ : ∀ c a w, Q (.panic c) (a.put oi.dst undef) w → Q (.panic c) a w := by exact fun _ _ _ h => h) (hw : Region.wanted oi (yielded ops a.tmps) = false := by rfl) : wpAnyH P md ops Q S (fuel + 1) listed a w :=
 Gs hl hs hf hr hQ hw hS h
theorem Ae (i : Nat) {oi : Oper} {rest : List Oper} {fuel : Nat} {listed : Array Bool} {a : Act} {w : World} (h : wpAnyH P md ops Q S fuel (listed.setIfInBounds i true) (a.put oi.dst undef) w) (hl : ops.toList.drop i = oi :: rest := by rfl) (hS : S w := by exact hHeld)
 (hs : Region.noSelect ops = true := by kernel_rfl) (hf : Region.free md ops listed i = true := by kernel_rfl) (hr : (Region.ready md ops listed).contains i = true := by kernel_rfl) (hQ : ∀ c a w, Q (.panic c) (a.put oi.dst undef) w -> Q (.panic c) a w := by exact fun _ _ _ h => h) (hw : Region.wanted oi (yielded ops a.tmps) = false := by rfl) : wpAnyH P md ops Q S (fuel + 1) listed a w :=
 Gs hl hs hf hr hQ hw hS h
end
theorem aC2 (p b v c1:Nat) (a1:Option Addr) (t:List Int) (r:Int) (W:World) (hF:InT p b W) (hL:InL W a1 c1 t) (e1:v<=12) (e2:t.length=2 ^ v) (hv:v≠0) (hr1:-9223372036854775808<=r) (hr2:r<=9223372036854775807) :
  Calls Tryz.prog 110 #[.pointer (some ⟨b,0,none⟩),.slice a1 t.length c1,.int .i64 r] W fun e w'=>e=.returned (.tuple #[.slice (some ⟨W.heap.size,0,none⟩) (Ie p t r).length (Ie p t r).length,.nilIface])/\Lst w'.heap.size w' (some ⟨W.heap.size,0,none⟩) (Ie p t r).length (Ie p t r)/\Below W.heap.size W w':=by
 have hl1:=hL.len;have HI:=hid (Tc t.length c1 a1 W (by omega));rw[decide_eq_true ((Qi _).2 ⟨v,e1,e2⟩)] at HI;have HV:=hid (aCy t.length v c1 a1 W e1 e2 hF.tab);have hv2:((v:Int)==0)=false:=by simp;omega
 have HX:=hid (aAM p b c1 a1 t r W W.heap.size hF.h3 hF.hm hF.cell hl1 hL.fit hr1 hr2 hL.lst.row (Nat.le_refl _));have HLE:=hid (Lk p t r);obtain⟨h2,hh2⟩:=exE (t.length / 2);rw[<- hh2] at HX HLE;generalize t.length=n at *;clear hF hL e1 e2 hv hh2;go_enter Tryz.func110,Tryz.ntmps110;go_wp2_with fail;refine HI.out.mono ?_;rintro e w1 ⟨rfl,rfl⟩;go_wp2_with fail;refine HV.out.mono ?_;rintro e w2 ⟨rfl,rfl⟩;go_wp2_with fail;refine HX.out.mono ?_;rintro e w3 ⟨rfl,hA,hb3⟩;have HA3:=hid hA;have HB3:=hid hb3;clear hA hb3 HX;go_wp2_with fail;go_ret2;rw[HLE.out];exact⟨rfl,HA3.out.lst HLE.out (fun _ _=>rfl) HA3.out.lt,HB3.out⟩
theorem Lt (p b n c1 c2:Nat) (a1 a2:Option Addr) (t fs:List Int) (w:World) (hIT:InT p b w) (hn:n<=6) (ht:t.length=2 ^ n) (hk:fs.length<=n) (ft:Fits t) (ff:Fits fs) (lt:Lst w.heap.size w a1 c1 t) (lf:RowB w.heap.size w a2 fs) :
  Calls Tryz.prog 63 #[.pointer (some ⟨b,0,none⟩),.slice a1 t.length c1,.slice a2 fs.length c2] w fun e w'=>∃ a' c',e=.returned (.slice a' (fxs p t (zat fs) fs.length).length c')/\Lst w'.heap.size w' a' c' (fxs p t (zat fs) fs.length)/\(a'=a1∨∃ g,a'=some ⟨g,0,none⟩/\w.heap.size<=g)/\Below w.heap.size w w':=by
 have HFX:Hid (∀ (k:Nat) (a:Option Addr) (c:Nat) (r:Int) (W:World),k<fs.length->Below w.heap.size w W->Lst W.heap.size W a c (fxs p t (zat fs) k)->-9223372036854775808<=r->r<=9223372036854775807->Calls Tryz.prog 110 #[.pointer (some ⟨b,0,none⟩),.slice a (fxs p t (zat fs) k).length c,.int .i64 r] W fun e w'=>∃ c',e=.returned (.tuple #[.slice (some ⟨W.heap.size,0,none⟩) (Ie p (fxs p t (zat fs) k) r).length c',.nilIface])/\Lst w'.heap.size w' (some ⟨W.heap.size,0,none⟩) c' (Ie p (fxs p t (zat fs) k) r)/\Below W.heap.size W w'):=fun k a c r W hkl hW hl h1 h2=>by have hlen:=El (p:=p) (zat fs) ht k (by omega);have hp6:=Dn (v:=n-k) (by omega);refine (aC2 p b (n-k) c a (fxs p t (zat fs) k) r W (hIT.below hW) ⟨by omega,Gn hIT.h3 hIT.hm _ ft k,hl⟩ (by omega) hlen (by omega) h1 h2).mono ?_;rintro e w' ⟨h5,h6,h7⟩;exact⟨_,h5,h6,h7⟩
 have HLT:Hid (Lst w.heap.size w a1 c1 (fxs p t (zat fs) 0)):=lt;have HLF:=hid lf;have HFF:=hid ff;have HS:Hid (∀ k,fxs p t (zat fs) (k+1)=Ie p (fxs p t (zat fs) k) (zat fs k)):=fun k=>rfl;obtain⟨T,hT⟩:∃ T:Nat->List Int,T=fxs p t (zat fs):=⟨_,rfl⟩
 have hT0:t=T 0:=by rw[hT];rfl
 simp only[<- hT] at HFX HLT HS ⊢;rw[show t.length=(T 0).length from by rw[<- hT0]];obtain⟨m,hm⟩:=exE (fs.length);have HM:=hid hm;simp only[<- hm] at HFX hk ⊢;clear lt lf ft ff hT hT0 hm ht;go_enter Tryz.func63,Tryz.ntmps63;go_wp2_with fail;go_loopw [1,8,11] (fun tv _ iv wr=>∃ k:Nat,k<=m/\iv=.int .i64 (k:Int)/\∃ a c,tv=.slice a (T k).length c/\Hid (Lst wr.heap.size wr a c (T k)/\(a=a1∨∃ g,a=some ⟨g,0,none⟩/\w.heap.size<=g)/\Below w.heap.size w wr)) (fun _ _ iv _=>m-(intOf iv).toNat)
 case atStart=>exact⟨0,by omega,rfl,a1,c1,rfl,HLT.out,Or.inl rfl,Below.refl _ _⟩
 case round =>
  obtain⟨k,hk',rfl,a,c,rfl,hI⟩:=hrel;by_cases hlt:k<m
  ·have hlt2:(k:Int)<(m:Int):=by omega
   have hks:IntKind.i64.wrap ((k:Int)+1)=(k:Int)+1:=by rw[IntKind.wrap_i64];omega
   obtain⟨b0,o0,rfl,hb0,hx0⟩:=HLF.out k (by rw[<- HM.out];exact hlt);have hx1:=(hI.out.2.2.cell (p:=⟨b0,o0+k,none⟩) hb0).trans hx0;obtain⟨f1,f2⟩:=HFF.out.all k;have HX:=hid (HFX.out k a c (zat fs k) wr hlt hI.out.2.2 hI.out.1 f1 f2);rw[<- HS.out k] at HX;have HB:=hid hI.out.2.2;generalize zat fs k=r at *;generalize T k=tk at *;clear hI hx0 f1 f2;go_wp2_with fail;refine HX.out.mono ?_;rintro e w1 ⟨c',rfl,hl1,hb1⟩;have HE:=hid (And.intro hl1 (And.intro (Or.inr ⟨wr.heap.size,rfl,HB.out.size⟩:(some ⟨wr.heap.size,0,none⟩=a1∨∃ g,(some ⟨wr.heap.size,0,none⟩:Option Addr)=some ⟨g,0,none⟩/\w.heap.size<=g)) (HB.out.trans (hb1.mono HB.out.size))));clear hl1 hb1;go_wp2_with fail;go_roundw
   case rel=>exact⟨k+1,by omega,by go_num,_,c',rfl,HE.out⟩
   case measure=>simp[intOf];omega
  ·obtain rfl:k=m:=by omega
   have hlt2:¬ (k:Int)<(k:Int):=by omega
   have HE:=hid hI.out;clear hI;go_wp2_with fail;go_ret;exact⟨a,c,rfl,HE.out⟩
theorem Zq (x y:Value) (g r:Nat) (w:World) (hr:r<=60) :
  Calls Tryz.prog 143 #[.agg #[x,.int .i64 (r:Int),y],.int .i64 (g:Int)] w fun e w'=>e=.returned (.int .i64 ((g / 2 ^ r:Nat):Int))/\Below w.heap.size w w':=by
 have HB:Hid (Below w.heap.size w (w.alloc (.cells #[x,.int .i64 (r:Int),y] 186))):=(Below.refl _ _).alloc (Nat.le_refl _) _;have HE:Hid ((g:Int) / 2 ^ r=((g / 2 ^ r:Nat):Int)):=by unfold Hid;rw[Int.natCast_ediv];simp
 go_enter Tryz.func143,Tryz.ntmps143;go_wp2_with fail;go_ret;refine⟨?_,HB.out⟩;rw[<- HE.out];rfl
theorem Wz (x:Value) (g r c:Nat) (a:Option Addr) (t:List Int) (w:World) (hr:r<=6) (ht:t.length=2 ^ r) (lt:Lst w.heap.size w a c t) :
  Calls Tryz.prog 140 #[.agg #[x,.int .i64 (r:Int),.slice a t.length c],.int .i64 (g:Int)] w fun e w'=>e=.returned (.int .i64 (zat t (g % 2 ^ r)))/\Below w.heap.size w w':=by
 obtain⟨W0,hW0⟩:=exE (w.alloc (.cells #[x,.int .i64 (r:Int),.slice a t.length c] 186));obtain⟨hb0,hs0,hz0⟩:=qV hW0;obtain⟨j,hj⟩:=exE (g % 2 ^ r);have hjl:j<t.length:=by rw[hj,ht];exact Nat.mod_lt _ (Nat.two_pow_pos r)
 have hand:bits BinOp.and IntKind.i64 (g:Int) (((2 ^ r:Nat):Int)-1)=(j:Int):=by rw[Fi r (g:Int) (by omega) _ (by have:=Nat.two_pow_pos r;omega),hj];simp
 obtain⟨b0,o0,rfl,hb1,hx0⟩:=lt.row j hjl;have hx1:=(hb0.cell (p:=⟨b0,o0+j,none⟩) hb1).trans hx0;have hp6:=Dn hr;obtain⟨G,hG⟩:=exE (w.heap.size);rw[<- hG] at hs0;have c1:=clA 1 hs0 rfl;have c2:=clA 2 hs0 rfl;have HB0:=hid hb0;have HWG:=hid hW0;have HG:=hid hG;have hjl2:(j:Int)<(t.length:Int):=by omega
 rw[<- hj];have hX1:1<=2 ^ r:=Nat.two_pow_pos r
 have hsh2:IntKind.i64.wrap (2 ^ r)=((2 ^ r:Nat):Int):=by
  have e:(2:Int) ^ r=((2 ^ r:Nat):Int):=by simp
  rw[e,IntKind.wrap_i64];omega
 have hxs:IntKind.i64.wrap (((2 ^ r:Nat):Int)-1)=((2 ^ r:Nat):Int)-1:=by rw[IntKind.wrap_i64];omega
 generalize 2 ^ r=X at *;generalize zat t j=E at *;generalize t.length=N at *;clear hj hjl lt hs0 hz0 hb0 hW0 hG hx0 ht;go_enter Tryz.func140,Tryz.ntmps140;go_wp2_with fail;rw[<- HWG.out,<- HG.out];clear HWG;refine wp_region_held_drew (S:=fun W=>W.cell? ⟨G,1,none⟩=some (.int .i64 (r:Int))/\W.cell? ⟨G,2,none⟩=some (.slice (some ⟨b0,o0,none⟩) N c)/\W.cell? ⟨b0,o0+j,none⟩=some (.int .i64 E)) (by kernel_rfl) (⟨c1,c2,hx1⟩) (fun hHeld=>?_);refine Aa 0 (.pointer (some ⟨G,2,none⟩)) ?_;simp only[Ac];refine Aa 1 (.slice (some ⟨b0,o0,none⟩) N c) ?_;simp only[Ac];refine Aa 2 (.int .i64 (g:Int)) ?_;simp only[Ac];refine Aa 3 (.pointer (some ⟨G,1,none⟩)) ?_;simp only[Ac];refine Aa 4 (.int .i64 (r:Int)) ?_;simp only[Ac];refine Aa 5 (.int .i64 (X:Int)) ?_;simp only[Ac];refine Aa 6 (.int .i64 ((X:Int)-1)) ?_;simp only[Ac];refine Aa 7 (.int .i64 (j:Int)) ?_;simp only[Ac];refine Aa 8 (.pointer (some ⟨b0,o0+j,none⟩)) ?_;simp only[Ac];refine Aa 9 (.int .i64 E) ?_;simp only[Ac];refine Ab 10 fun K' hK'=>?_;go_simp;refine hK'.out _ _ (hHeld) (fun hHeld=>?_);clear hK' K';refine wpAnyH_done (by kernel_rfl) ?_ _;go_wp2_with fail;go_ret;exact⟨rfl,HB0.out.drew⟩
theorem Lu (p b n c1 c2:Nat) (y:Value) (a1 a2:Option Addr) (t fs:List Int) (w:World) (hIT:InT p b w) (hn:n<=6) (ht:t.length=2 ^ n) (hk:fs.length<=n) (ft:Fits t) (ff:Fits fs) (lt:Lst w.heap.size w a1 c1 t) (lf:RowB w.heap.size w a2 fs) :
  Calls Tryz.prog 139 #[.agg #[.pointer (some ⟨b,0,none⟩),y,.int .i64 (n:Int)],.slice a1 t.length c1,.slice a2 fs.length c2] w fun e w'=>∃ a' c',e=.returned (.agg #[.slice a2 fs.length c2,.int .i64 ((n-fs.length:Nat):Int),.slice a' (fxs p t (zat fs) fs.length).length c'])/\Lst w'.heap.size w' a' c' (fxs p t (zat fs) fs.length)/\(a'=a1∨∃ g,a'=some ⟨g,0,none⟩/\w.heap.size<=g)/\Below w.heap.size w w':=by
 have hmx:Tryz.prog.follows .mixedOrders=true:=by kernel_rfl
 obtain⟨W0,hW0⟩:=exE (w.alloc (.cells #[.pointer (some ⟨b,0,none⟩),y,.int .i64 (n:Int)] 84));obtain⟨hb0,hs0,hz0⟩:=qV hW0;obtain⟨W1,hW1⟩:=exE (W0.alloc (.cells #[.slice none 0 0,.int .i64 0,.slice none 0 0] 186));obtain⟨hb1,hs1,hz1⟩:=qV hW1;obtain⟨G,hG⟩:=exE (w.heap.size);obtain⟨R,hR⟩:=exE (W0.heap.size);rw[<- hG] at hs0;rw[<- hR] at hs1;have hGR:R=w.heap.size+1:=by omega
 have hs0':=(hb1.block G (by omega)).trans hs0;have hB1:Below w.heap.size w W1:=hb0.trans (hb1.mono hb0.size);have HB1:=hid hB1
 have HSB:Hid (∀ W,Below W1.heap.size W1 W->W.cell? ⟨G,0,none⟩=some (.pointer (some ⟨b,0,none⟩))/\W.cell? ⟨G,2,none⟩=some (.int .i64 (n:Int))):=fun W hW=>by have e1:=(hW.block G (by omega)).trans hs0';exact⟨by simp[World.cell?,e1],by simp[World.cell?,e1]⟩
 have HRB:Hid (∀ W,Below W1.heap.size W1 W->W.heap[R]?=some (.cells #[.slice none 0 0,.int .i64 0,.slice none 0 0] 186 (0,0))):=fun W hW=>(hW.block R (by omega)).trans hs1
 have HFX:Hid (∀ W,Below W1.heap.size W1 W->Calls Tryz.prog 63 #[.pointer (some ⟨b,0,none⟩),.slice a1 t.length c1,.slice a2 fs.length c2] W fun e w'=>∃ a' c',e=.returned (.slice a' (fxs p t (zat fs) fs.length).length c')/\Lst w'.heap.size w' a' c' (fxs p t (zat fs) fs.length)/\(a'=a1∨∃ g,a'=some ⟨g,0,none⟩/\W.heap.size<=g)/\Below W.heap.size W w'):=fun W hW=>by have hw:=hB1.trans (hW.mono hB1.size);exact Lt p b n c1 c2 a1 a2 t fs W (hIT.below hw) hn ht hk ft ff ((lt.below hw).mono hw.size) ((lf.below hw).mono hw.size)
 have h0:0<t.length:=by rw[ht];exact Nat.two_pow_pos n
 have HEN:Hid (∀ (W:World) (a':Option Addr) (c':Nat) (cs:Array Value),Below W1.heap.size W1 W->Lst W.heap.size W a' c' (fxs p t (zat fs) fs.length)->(a'=a1∨∃ g,a'=some ⟨g,0,none⟩/\W1.drew.heap.size<=g)->Lst (W.setRow R cs).heap.size (W.setRow R cs) a' c' (fxs p t (zat fs) fs.length)/\(a'=a1∨∃ g,a'=some ⟨g,0,none⟩/\w.heap.size<=g)/\Below w.heap.size w (W.setRow R cs)):=fun W a' c' cs hW hl hor=>by
  have hbw:Below w.heap.size w W:=hB1.trans (hW.mono hB1.size);have hbs:=below_setRow hbw (show w.heap.size<=R by omega) cs;refine⟨⟨fun q hq=>?_,hl.room,hl.nil⟩,hor.imp id (fun ⟨g,h,hg⟩=>⟨g,h,Nat.le_trans hB1.size hg⟩),hbs⟩;obtain⟨b',o',e1,e2,e4⟩:=hl.row q hq
  have hne:b'≠R:=by
   rcases hor with h | ⟨g,h,hg⟩
   ·obtain⟨b2,o2,e5,e6,_⟩:=lt.row 0 h0;rw[h,e5] at e1;injection e1 with e1
    injection e1 with e7 _ _
    omega
   ·rw[h] at e1;injection e1 with e1
    injection e1 with e7 _ _
    have:W1.drew.heap.size=W1.heap.size:=rfl;omega
  refine⟨b',o',e1,by simpa [World.setRow] using e2,?_⟩;exact (World.cell?_of_block (w:=W) (a:=⟨b',o'+q,none⟩) (setRow_other W R b' cs hne)).trans e4
 have HSR:Hid (∀ (W:World) (cs:Array Value),(W.cell? ⟨G,0,none⟩=some (.pointer (some ⟨b,0,none⟩))/\W.cell? ⟨G,2,none⟩=some (.int .i64 (n:Int)))->(W.setRow R cs).cell? ⟨G,0,none⟩=some (.pointer (some ⟨b,0,none⟩))/\(W.setRow R cs).cell? ⟨G,2,none⟩=some (.int .i64 (n:Int))):=fun W cs h=>by have e:=setRow_other W R G cs (by omega);exact⟨(World.cell?_of_block (w:=W) (a:=⟨G,0,none⟩) e).trans h.1,(World.cell?_of_block (w:=W) (a:=⟨G,2,none⟩) e).trans h.2⟩
 have HBD:Hid (Below W1.heap.size W1 W1.drew):=(Below.refl _ _).drew;obtain⟨m,hmm⟩:=exE (n-fs.length);have hnk:(n:Int)-(fs.length:Int)=(m:Int):=by omega
 have hms:IntKind.i64.wrap (m:Int)=(m:Int):=by rw[IntKind.wrap_i64];omega
 rw[<- hmm];generalize fxs p t (zat fs) fs.length=Y at *;generalize Y.length=M at *;generalize t.length=N at *;generalize fs.length=k at *;have HWG:Hid (W1=(w.alloc (.cells #[.pointer (some ⟨b,0,none⟩),y,.int .i64 (n:Int)] 84)).alloc (.cells #[.slice none 0 0,.int .i64 0,.slice none 0 0] 186)):=by unfold Hid;rw[hW1,hW0]
 have HG:=hid hG;have HR:=hid hGR;clear hIT ht ft ff lt lf hb0 hb1 hs0 hs1 hz0 hz1 hW0 hW1 hG hR hGR hs0' hB1 hmm hk h0;go_enter Tryz.func139,Tryz.ntmps139;go_wp2_with fail;rw[<- HWG.out,<- HR.out,<- HG.out];clear HWG;refine wp_region_held_drew (S:=fun W=>W.cell? ⟨G,0,none⟩=some (.pointer (some ⟨b,0,none⟩))/\W.cell? ⟨G,2,none⟩=some (.int .i64 (n:Int))) (by kernel_rfl) (HSB.out _ HBD.out) (fun hHeld=>?_);refine Aa 0 (.slice a2 k c2) ?_;simp only[Ac];refine Aa 1 (.pointer (some ⟨G,2,none⟩)) ?_;simp only[Ac];refine Aa 2 (.int .i64 (n:Int)) ?_;simp only[Ac];refine Aa 3 (.slice a2 k c2) ?_;simp only[Ac];refine Aa 4 (.int .i64 (k:Int)) ?_;simp only[Ac];refine Aa 5 (.int .i64 (m:Int)) ?_;simp only[Ac];refine Aa 6 (.pointer (some ⟨G,0,none⟩)) ?_;simp only[Ac];refine Aa 7 (.pointer (some ⟨b,0,none⟩)) ?_;simp only[Ac];refine Aa 8 (.slice a1 N c1) ?_;simp only[Ac];refine Aa 9 (.slice a2 k c2) ?_;simp only[Ac];refine Ab 10 fun K' hK'=>?_;go_simp;refine (HFX.out _ HBD.out).mono ?_;rintro e w3 ⟨a',c',rfl,hl3,ho3,hb3⟩;have hB3:=HBD.out.trans hb3;have hS3:=HSB.out w3 hB3;have HRR:=hid (HRB.out w3 hB3);have HE3:=hid (fun cs=>HEN.out w3 a' c' cs hB3 hl3 ho3);have HS4:=hid (fun cs=>HSR.out w3 cs hS3);clear hl3 hb3 ho3;refine hK'.out _ _ (hS3) (fun hHeld=>?_);clear hK' K';refine Aa 11 (.agg #[.slice a2 k c2,.int .i64 (m:Int),.slice a' M c']) ?_;simp only[Ac];refine Ab 12 fun K' hK'=>?_;rw[if_pos (by rfl)];refine wp_store_row 186 _ _ rfl R #[.slice a2 k c2,.int .i64 (m:Int),.slice a' M c'] rfl rfl _ _ HRR.out (by kernel_rfl) rfl (by simp[Value.oneCell']) ?_;refine hK'.out _ _ (HS4.out _) (fun hHeld=>?_);clear hK' K';refine wpAnyH_done (by kernel_rfl) ?_ _;go_wp2_with fail;refine bodyPost_ret (results_cell_row rfl _ _ R 186 #[.slice a2 k c2,.int .i64 (m:Int),.slice a' M c'] (0,0) _ rfl (setRow_heap _ _ _ _ _ _ HRR.out) Tryz.underlying186 rfl (by kernel_rfl)) rfl ?_;exact⟨a',c',rfl,HE3.out _⟩
open Go
section
variable {P:Program} {ops:Array Oper} {Q:Exit->Act->World->Prop} {md:Region.Mode}
theorem Iv {L:Array Bool} {i:Nat} (h:L.getD i true=false):(L.setIfInBounds i true).toList.count false<L.toList.count false:=by
 have hi:i<L.size:=by
  rcases Nat.lt_or_ge i L.size with g | g
  ·exact g
  ·simp[Array.getElem?_eq_none g] at h
 have hv:L.toList[i]'(by simpa using hi)=false:=by simpa [hi] using h
 rw[Array.toList_setIfInBounds];have hc:=List.count_set (a:=true) (b:=false) (l:=L.toList) (i:=i) (by simpa using hi);rw[hv] at hc;have hpos:0<L.toList.count false:=List.count_pos_iff.2 (by rw[<- hv];exact List.getElem_mem _);simp only[show ((false:Bool)==false)=true from rfl,show ((true:Bool)==false)=false from rfl,if_true,Bool.false_eq_true,if_false] at hc;omega
theorem aAO (Inv:Array Bool->Act->World->Prop)
  (hstep:∀ L a w,Inv L a w->∀ i∈Region.ready md ops L,wpOp P ops Q i (fun a' w'=>Inv (L.setIfInBounds i true) a' w') a w)
  (hdone:∀ L a w,Inv L a w->Region.ready md ops L=[]->Q .normal a w) :
  ∀ (fuel:Nat) (L:Array Bool) (a:Act) (w:World),L.toList.count false<=fuel->Inv L a w->wpAny P md ops Q fuel L a w:=by
 intro fuel
 induction fuel with
 | zero =>
  intro L a w hc hI
  have hr:Region.ready md ops L=[]:=by
   rcases hrr:Region.ready md ops L with _ | ⟨i,t⟩
   ·rfl
   ·have hi:i∈Region.ready md ops L:=by rw[hrr];simp
    have:=Iv (mem_ready.1 hi).1;omega
  exact⟨hr,hdone L a w hI hr⟩
 | succ fuel ih =>
  intro L a w hc hI;refine⟨fun h=>hdone L a w hI h,fun i hi=>wpOp_mono (fun a' w' h=>ih _ _ _ ?_ h) (hstep L a w hI i hi)⟩;have:=Iv (mem_ready.1 hi).1;omega
def aFS (md:Region.Mode) (ops:Array Oper):Bool:=(List.range ops.size).all fun k=>match ops[k]? with | some o=>o.after.all fun e=>!(Region.binds md e) || decide (e.on<k) | none=>true
theorem Xa {L:Array Bool} (hl:aFS md ops=true) (hsz:L.size=ops.size) (hr:Region.ready md ops L=[]):∀ k,k<ops.size->L.getD k false=true:=by
 intro k
 induction k using Nat.strongRecOn with
 | _ k ih =>
  intro hk;have ho:ops[k]?=some ops[k]:=by simp[hk]
  rcases hx:L.getD k false with _ | _
  ·exfalso;have hk2:k<L.size:=by omega
   have hmem:k∈Region.ready md ops L:=by refine mem_ready.2 ⟨by simp[hk2] at hx ⊢;exact hx,ops[k],ho,fun e he hb=>?_⟩;have:=List.all_eq_true.1 hl k (List.mem_range.2 hk);rw[ho] at this;have:=Array.all_eq_true'.1 this e he;rw[hb] at this;simp at this;exact ih e.on this (by omega)
   rw[hr] at hmem;cases hmem
  ·rfl
theorem Cd {L:Array Bool} {i:Nat} (h:i∈Region.ready md ops L):L.getD i false=false:=by
 have h0:=(mem_ready.1 h).1;rcases Nat.lt_or_ge i L.size with h' | h'
 ·simp[h'] at h0 ⊢;exact h0
 ·simp[Array.getElem?_eq_none h']
theorem Iw {L:Array Bool} {i:Nat} (h:i∈Region.ready md ops L):i<ops.size:=by
 obtain⟨_,o,ho,_⟩:=mem_ready.1 h;exact (Array.getElem?_eq_some_iff.1 ho).1
theorem Dx {L:Array Bool} {i:Nat} (h:i∈Region.ready md ops L):∀ o,ops[i]?=some o->∀ e∈o.after,Region.binds md e=true->L.getD e.on false=true:=fun o ho e he hb=>by
 obtain⟨_,o',ho',hall⟩:=mem_ready.1 h;rw[ho'] at ho;obtain rfl:=Option.some.inj ho;exact hall e he hb
theorem qU {L:Array Bool} {i k:Nat} (hcl:Cl md ops L) (h:i∈Region.ready md ops L) (hd:Ia md ops 4 i k=true):L.getD k false=true:=Ba hcl 4 i hd (Dx h)
theorem Lv (Inv:Array Bool->Act->World->Prop)
  (hstep:∀ L a w,Cl md ops L->Inv L a w->∀ i∈Region.ready md ops L,wpOp P ops Q i (fun a' w'=>Inv (L.setIfInBounds i true) a' w') a w)
  (hdone:∀ L a w,(∀ k,k<ops.size->L.getD k false=true)->Inv L a w->Q .normal a w) (hlex:aFS md ops=true) (a:Act) (w:World)
  (hI:Inv (Array.replicate ops.size false) a w):wpAny P md ops Q ops.size (Array.replicate ops.size false) a w:=by
 refine aAO (fun L a w=>Cl md ops L/\L.size=ops.size/\Inv L a w) ?_ ?_ _ _ _ _ ?_ ⟨?_,by simp,hI⟩
 ·intro L a w ⟨h1,h2,h4⟩ i hi;exact wpOp_mono (fun a' w' h=>⟨h1.set (Dx hi),by simpa using h2,h⟩) (hstep L a w h1 h4 i hi)
 ·intro L a w ⟨h1,h2,h4⟩ hr;exact hdone L a w (Xa hlex h2 hr) h4
 ·simp
 ·intro k o hk hl;rcases Nat.lt_or_ge k ops.size with g | g
  ·simp[g] at hl
  ·simp[Array.getElem?_eq_none g] at hk
def Cj (σ:Nat->Value) (i:Nat) (v:Value):Nat->Value:=fun k=>if k=i then v else σ k
def Told (n:Nat) (F:World->Nat->Value->Prop) (L:Array Bool) (w:World) (σ:Nat->Value):Prop:=∀ k,k<n->L.getD k false=true->F w k (σ k)
theorem Told.one {n:Nat} {F:World->Nat->Value->Prop} {L:Array Bool} {w w':World} {σ:Nat->Value} (h:Told n F L w σ) {i:Nat} {v:Value} (hm:∀ k u,F w k u->F w' k u) (hv:F w' i v):Told n F (L.setIfInBounds i true) w' (Cj σ i v):=fun k hk hl=>by
 unfold Cj;by_cases e:k=i
 ·rw[if_pos e,e];exact hv
 ·rw[if_neg e];refine hm _ _ (h k hk ?_);simp only[Array.getD_eq_getD_getElem?] at *
  rwa [Array.getElem?_setIfInBounds_ne (Ne.symm e)] at hl
theorem qZ {L:Array Bool} {i k:Nat} (h:i≠k):(L.setIfInBounds i true).getD k false=L.getD k false:=by
 simp only[Array.getD_eq_getD_getElem?];rw[Array.getElem?_setIfInBounds_ne h]
end
end Go.Proofs.YtkdndfbfmchcpaaGreatDoor
