
import Derived.OrdersHeld
import Derived.RegionTactic
set_option maxRecDepth 1000000
set_option maxHeartbeats 8000000
namespace Go.Proofs.YtkdndfbfmchcpaaGreatDoor
open Go
section
variable {P:Program} {ops:Array Oper} {Q:Exit->Act->World->Prop} {md:Region.Mode} {C:World->Prop} {st:List Nat}
def Fa (st:List Nat) (L:Array Bool):Prop:=∀ s,s∈st->L.getD s true=false
theorem Ft {st:List Nat} {L:Array Bool} {j:Nat} (hj:j ∉ st) (h:Fa st L):Fa st (L.setIfInBounds j true):=fun s hs=>by
 have hne:j≠s:=fun e=>hj (by rw[e];exact hs);rw[getD_set_ne true hne];exact h s hs
def jY (P:Program) (md:Region.Mode) (ops:Array Oper) (Q:Exit->Act->World->Prop) (C:World->Prop) (st:List Nat):Nat->Array Bool->Act->World->Prop
 | 0,listed,a,w=>Region.ready md ops listed=[]/\Q .normal a w
 | fuel+1,listed,a,w =>
  (Region.ready md ops listed=[]->Q .normal a w) /\
  ∀ i∈Region.ready md ops listed,wpOp P ops Q i (fun a' w'=>(Fa st (listed.setIfInBounds i true)->C w')/\jY P md ops Q C st fuel (listed.setIfInBounds i true) a' w') a w
theorem Kr:∀ (fuel:Nat) (listed:Array Bool) (a:Act) (w:World),jY P md ops Q C st fuel listed a w->wpAny P md ops Q fuel listed a w
 | 0,_,_,_,h=>h
 | fuel+1,_,_,_,h=>⟨h.1,fun i hi=>wpOp_mono (fun a' w' h'=>Kr fuel _ a' w' h'.2) (h.2 i hi)⟩
def Ia (md:Region.Mode) (ops:Array Oper):Nat->Nat->Nat->Bool
 | 0,_,_=>false
 | f+1,s,i=>match ops[s]? with | some o=>o.after.any fun e=>Region.binds md e && (e.on==i || Ia md ops f e.on i) | none=>false
def Cl (md:Region.Mode) (ops:Array Oper) (L:Array Bool):Prop:=∀ (k:Nat) (o:Oper),ops[k]?=some o->L.getD k false=true->∀ e∈o.after,Region.binds md e=true->L.getD e.on false=true
def clB (md:Region.Mode) (ops:Array Oper) (L:Array Bool):Bool:=(List.range ops.size).all fun k=>!(L.getD k false) || match ops[k]? with | some o=>o.after.all fun e=>!(Region.binds md e) || L.getD e.on false | none=>true
theorem aDH {L:Array Bool} (h:clB md ops L=true):Cl md ops L:=fun k o hk hl e he hb=>by
 have:=List.all_eq_true.1 h k (List.mem_range.2 (Array.getElem?_eq_some_iff.1 hk).1);simp only[hk,hl,Bool.not_true,Bool.false_or] at this;have:=Array.all_eq_true'.1 this e he;simpa [hb] using this
theorem Oa {L:Array Bool} {j x:Nat} (h:L.getD x false=true):(L.setIfInBounds j true).getD x false=true:=by
 by_cases e:j=x
 ·subst e;rcases Nat.lt_or_ge j L.size with g | g
  ·simp[g]
  ·simp[Array.getElem?_eq_none g] at h
 ·simp only[Array.getD_eq_getD_getElem?] at *;rw[Array.getElem?_setIfInBounds_ne e];exact h
theorem Cl.set {L:Array Bool} (h:Cl md ops L) {j:Nat} (hj:∀ o,ops[j]?=some o->∀ e∈o.after,Region.binds md e=true->L.getD e.on false=true):Cl md ops (L.setIfInBounds j true):=fun k o hk hl e he hb=>by
 by_cases ejk:j=k
 ·subst ejk;exact Oa (hj o hk e he hb)
 ·refine Oa (h k o hk ?_ e he hb);simp only[Array.getD_eq_getD_getElem?] at *;rw[Array.getElem?_setIfInBounds_ne ejk] at hl;exact hl
theorem Ba {L:Array Bool} (h:Cl md ops L) {i:Nat}:∀ (f s:Nat),Ia md ops f s i=true->(∀ o,ops[s]?=some o->∀ e∈o.after,Region.binds md e=true->L.getD e.on false=true)->L.getD i false=true
 | 0,_,hd,_=>by simp[Ia] at hd
 | f+1,s,hd,hs=>by
  unfold Ia at hd;split at hd
  ·rename_i o ho
   obtain⟨e,he,hb⟩:=Array.any_eq_true'.1 hd;rw[Bool.and_eq_true,Bool.or_eq_true,beq_iff_eq] at hb;have hl:=hs o ho e he hb.1;rcases hb.2 with g | g
   ·rw[<- g];exact hl
   ·exact Ba h f e.on g (fun o' ho'=>h e.on o' ho' hl)
  ·cases hd
def Pq (md:Region.Mode) (ops:Array Oper) (st:List Nat) (i:Nat):Bool:=!st.contains i && st.all fun s=>Ia md ops 4 s i
theorem Vu {i:Nat} (h:Pq md ops st i=true):i ∉ st/\∀ s,s∈st->Ia md ops 4 s i=true:=by
 unfold Pq at h;rw[Bool.and_eq_true] at h;exact⟨by simpa using h.1,fun s hs=>List.all_eq_true.1 h.2 s hs⟩
theorem Pr {i:Nat} {oi:Oper} {v:Value} (hi:ops[i]?=some oi) (hsel:∀ (j:Nat) (o:Oper) cs b,ops[j]?=some o->o.op≠.select cs b)
  (hw:i ∉ st/\∀ s,s∈st->Ia md ops 4 s i=true)
  (hQ:∀ c a w,Q (.panic c) (a.put oi.dst v) w->Q (.panic c) a w) :
  ∀ (fuel:Nat) (listed:Array Bool) (a:Act) (w:World),
   (∀ j oj,ops[j]?=some oj->j≠i->listed.getD j true=false->(∀ e∈oj.after,Region.binds md e=true->e.on≠i)->oi.apart ops oj=true) ->
   i∈Region.ready md ops listed->YieldsIf P ops C oi v a->C w->Fa st listed->Cl md ops listed ->
   jY P md ops Q C st fuel (listed.setIfInBounds i true) (a.put oi.dst v) w->jY P md ops Q C st (fuel+1) listed a w:=by
 intro fuel
 induction fuel with
 | zero =>
  intro listed a w _ hr hy hC hn hcl H;refine⟨fun h=>(by rw[h] at hr;cases hr),fun j hj=>?_⟩;by_cases hji:j=i
  ·subst hji;exact hy.wpOp hi hC ⟨fun _=>hC,H⟩
  ·have:=ready_mono hj hji;rw[H.1] at this;cases this
 | succ fuel ih =>
  intro listed a w hfree hr hy hC hn hcl H;refine⟨fun h=>(by rw[h] at hr;cases hr),fun j hj=>?_⟩;by_cases hji:j=i
  ·subst hji;exact hy.wpOp hi hC ⟨fun _=>hC,H⟩
  ·have h1:=H.2 j (ready_mono hj hji);obtain⟨hjun,oj,hoj,hall⟩:=mem_ready.1 hj
   have hnot:∀ e∈oj.after,Region.binds md e=true->e.on≠i:=fun e he hb heq=>by
    have h1:=hall e he hb;have h0:=(mem_ready.1 hr).1;rw[heq] at h1;rcases Nat.lt_or_ge i listed.size with h' | h'
    ·simp[h'] at h0 h1;rw[h0] at h1;cases h1
    ·simp[Array.getElem?_eq_none h'] at h1
   have hedges:∀ o,ops[j]?=some o->∀ e∈o.after,Region.binds md e=true->listed.getD e.on false=true:=fun o ho e he hb=>by rw[hoj] at ho;obtain rfl:=Option.some.inj ho;exact hall e he hb
   have hiun:listed.getD i false=false:=by
    have h0:=(mem_ready.1 hr).1;rcases Nat.lt_or_ge i listed.size with h' | h'
    ·simp[h'] at h0 ⊢;exact h0
    ·simp[Array.getElem?_eq_none h']
   have hjst:j ∉ st:=fun hjs=>by have:=Ba hcl 4 j (hw.2 j hjs) hedges;rw[hiun] at this;cases this
   have hn1:Fa st ((listed.setIfInBounds i true).setIfInBounds j true):=Ft hjst (Ft hw.1 hn);have h2:=wpOp_putIf hoj (hfree j oj hoj hji hjun hnot) (fun cs b=>hsel i oi cs b hi) (fun cs b=>hsel j oj cs b hoj) hQ hy h1
   have hfree':∀ k ok,ops[k]?=some ok->k≠i->(listed.setIfInBounds j true).getD k true=false ->
     (∀ e∈ok.after,Region.binds md e=true->e.on≠i)->oi.apart ops ok=true:=fun k ok hk hki hun hno=>by
    refine hfree k ok hk hki ?_ hno;by_cases hjk:j=k
    ·subst hjk;exact hjun
    ·rw[getD_set_ne true hjk] at hun;exact hun
   refine wpOp_mono (fun a' w' h3=>⟨fun _=>h3.2.1 hn1,ih (listed.setIfInBounds j true) a' w' hfree' (ready_mono hr (Ne.symm hji)) h3.1 (h3.2.1 hn1) (Ft hjst hn) (hcl.set hedges) ?_⟩) h2;rw[Array.setIfInBounds_comm _ _ hji];exact h3.2.2
theorem Ks {st:List Nat} {L:Array Bool} {j:Nat} (hj:j ∉ st) (h:Fa st (L.setIfInBounds j true)):Fa st L:=fun s hs=>by
 have hne:j≠s:=fun e=>hj (by rw[e];exact hs);have:=h s hs
 rwa [getD_set_ne true hne] at this
theorem Nm {i:Nat} {oi:Oper} {v:Value} (hi:ops[i]?=some oi) (hsel:∀ (j:Nat) (o:Oper) cs b,ops[j]?=some o->o.op≠.select cs b) (hw:i ∉ st)
  (hQ:∀ c a w,Q (.panic c) (a.put oi.dst v) w->Q (.panic c) a w) :
  ∀ (fuel:Nat) (listed:Array Bool) (a:Act) (w:World),
   (∀ j oj,ops[j]?=some oj->j≠i->listed.getD j true=false->(∀ e∈oj.after,Region.binds md e=true->e.on≠i)->oi.apart ops oj=true) ->
   i∈Region.ready md ops listed->YieldsIf P ops (fun _=>True) oi v a->(Fa st listed->C w) ->
   jY P md ops Q C st fuel (listed.setIfInBounds i true) (a.put oi.dst v) w->jY P md ops Q C st (fuel+1) listed a w:=by
 intro fuel
 induction fuel with
 | zero =>
  intro listed a w _ hr hy hC H;refine⟨fun h=>(by rw[h] at hr;cases hr),fun j hj=>?_⟩;by_cases hji:j=i
  ·subst hji;exact hy.wpOp hi trivial ⟨fun h=>hC (Ks hw h),H⟩
  ·have:=ready_mono hj hji;rw[H.1] at this;cases this
 | succ fuel ih =>
  intro listed a w hfree hr hy hC H;refine⟨fun h=>(by rw[h] at hr;cases hr),fun j hj=>?_⟩;by_cases hji:j=i
  ·subst hji;exact hy.wpOp hi trivial ⟨fun h=>hC (Ks hw h),H⟩
  ·have h1:=H.2 j (ready_mono hj hji);obtain⟨hjun,oj,hoj,hall⟩:=mem_ready.1 hj
   have hnot:∀ e∈oj.after,Region.binds md e=true->e.on≠i:=fun e he hb heq=>by
    have h1:=hall e he hb;have h0:=(mem_ready.1 hr).1;rw[heq] at h1;rcases Nat.lt_or_ge i listed.size with h' | h'
    ·simp[h'] at h0 h1;rw[h0] at h1;cases h1
    ·simp[Array.getElem?_eq_none h'] at h1
   have h2:=wpOp_putIf hoj (hfree j oj hoj hji hjun hnot) (fun cs b=>hsel i oi cs b hi) (fun cs b=>hsel j oj cs b hoj) hQ hy h1
   have hfree':∀ k ok,ops[k]?=some ok->k≠i->(listed.setIfInBounds j true).getD k true=false ->
     (∀ e∈ok.after,Region.binds md e=true->e.on≠i)->oi.apart ops ok=true:=fun k ok hk hki hun hno=>by
    refine hfree k ok hk hki ?_ hno;by_cases hjk:j=k
    ·subst hjk;exact hjun
    ·rw[getD_set_ne true hjk] at hun;exact hun
   refine wpOp_mono (fun a' w' h3=>?_) h2
   have hb:Fa st (listed.setIfInBounds j true)->C w':=fun hns=>h3.2.1 (by
    rw[Array.setIfInBounds_comm _ _ (Ne.symm hji)]
    exact Ft hw hns)
   refine⟨hb,ih (listed.setIfInBounds j true) a' w' hfree' (ready_mono hr (Ne.symm hji)) h3.1 hb ?_⟩;rw[Array.setIfInBounds_comm _ _ hji];exact h3.2.2
theorem Sa {i:Nat} {oi:Oper} {v:Value} {fuel:Nat} {listed:Array Bool} {a:Act} {w:World} (hi:ops[i]?=some oi)
  (hs:Region.noSelect ops=true) (hf:Region.free md ops listed i=true) (hr:(Region.ready md ops listed).contains i=true) (hw:st.contains i=false)
  (hQ:∀ c a w,Q (.panic c) (a.put oi.dst v) w->Q (.panic c) a w) (hy:YieldsIf P ops (fun _=>True) oi v a) (hC:Fa st listed->C w)
  (h:jY P md ops Q C st fuel (listed.setIfInBounds i true) (a.put oi.dst v) w):jY P md ops Q C st (fuel+1) listed a w :=
 Nm hi (Region.noSelect_spec hs) (by simpa using hw) hQ fuel listed a w (Region.free_spec hi hf) (by simpa using hr) hy hC h
theorem psU (i : Nat) (v : Value) {oi : Oper} {fuel : Nat} {listed : Array Bool} {a : Act} {w : World} (hi : ops[i]? = some oi) (hy : ∀ w, True → (execOp a.eval oi).run P w = .ok (.value v) w) (hC : Fa st listed → C w) (h : jY P md ops Q C st fuel (listed.setIfInBounds i true) (a.put oi.dst v) w)
 (hs : Region.noSelect ops = true := by kernel_rfl) (hf : Region.free md ops listed i = true := by kernel_rfl) (hr : (Region.ready md ops listed).contains i = true := by kernel_rfl) (hw : st.contains i = false := by kernel_rfl) (hQ : ∀ c a w, Q (.panic c) (a.put oi.dst v) w → Q (.panic c) a w := by exact fun _ _ _ h => h) (hwt : Region.wanted oi (yielded ops a.tmps) = true := by rfl) : jY P md ops Q C st (fuel + 1) listed a w :=
 Sa hi hs hf hr hw hQ (Or.inl ⟨hwt, hy⟩) hC h
theorem Sb {i:Nat} {oi:Oper} {v:Value} {fuel:Nat} {listed:Array Bool} {a:Act} {w:World} (hi:ops[i]?=some oi)
  (hs:Region.noSelect ops=true) (hf:Region.free md ops listed i=true) (hr:(Region.ready md ops listed).contains i=true) (hw:Pq md ops st i=true) (hn:(st.all fun s=>!(listed.getD s true))=true) (hcl:clB md ops listed=true)
  (hQ:∀ c a w,Q (.panic c) (a.put oi.dst v) w->Q (.panic c) a w) (hy:YieldsIf P ops C oi v a) (hC:C w)
  (h:jY P md ops Q C st fuel (listed.setIfInBounds i true) (a.put oi.dst v) w):jY P md ops Q C st (fuel+1) listed a w :=
 Pr hi (Region.noSelect_spec hs) (Vu hw) hQ fuel listed a w (Region.free_spec hi hf) (by simpa using hr) hy hC (fun s hs=>by have:=List.all_eq_true.1 hn s hs;simpa using this) (aDH hcl) h
theorem psT (i : Nat) (v : Value) {oi : Oper} {fuel : Nat} {listed : Array Bool} {a : Act} {w : World} (hi : ops[i]? = some oi) (hy : ∀ w, C w → (execOp a.eval oi).run P w = .ok (.value v) w) (hC : C w) (h : jY P md ops Q C st fuel (listed.setIfInBounds i true) (a.put oi.dst v) w)
 (hs : Region.noSelect ops = true := by kernel_rfl) (hf : Region.free md ops listed i = true := by kernel_rfl) (hr : (Region.ready md ops listed).contains i = true := by kernel_rfl) (hw : Pq md ops st i = true := by kernel_rfl) (hn : (st.all fun s => !(listed.getD s true)) = true := by kernel_rfl) (hcl : clB md ops listed = true := by kernel_rfl) (hQ : ∀ c a w, Q (.panic c) (a.put oi.dst v) w → Q (.panic c) a w := by exact fun _ _ _ h => h) (hwt : Region.wanted oi (yielded ops a.tmps) = true := by rfl) : jY P md ops Q C st (fuel + 1) listed a w :=
 Sb hi hs hf hr hw hn hcl hQ (Or.inl ⟨hwt, hy⟩) hC h
theorem Vv {i:Nat} {fuel:Nat} {listed:Array Bool} {a:Act} {w:World} (hr:Region.ready md ops listed=[i])
  (h:wpOp P ops Q i (fun a' w'=>(Fa st (listed.setIfInBounds i true)->C w')/\jY P md ops Q C st fuel (listed.setIfInBounds i true) a' w') a w):jY P md ops Q C st (fuel+1) listed a w :=
 ⟨(fun h0=>by rw[hr] at h0;cases h0),fun j hj=>by rw[hr] at hj;obtain rfl:=List.mem_singleton.1 hj;exact h⟩
theorem Ad (i : Nat) {o : Oper} {fuel : Nat} {listed : Array Bool} {a : Act} {w : World} (h : ∀ K' : Act -> World -> Prop, (∀ a w, ((Fa st (listed.setIfInBounds i true) -> C w) /\ jY P md ops Q C st fuel (listed.setIfInBounds i true) a w) -> K' a w) -> Oper.wp P o a w K' Q) (ho : ops[i]? = some o := by rfl) (hw : Region.wanted o (yielded ops a.tmps) = true := by rfl) (hr : Region.ready md ops listed = [i] := by kernel_rfl) : jY P md ops Q C st (fuel + 1) listed a w :=
 Vv hr (wpOp_step ho (fun K' hK' => by rw [if_pos hw]; exact h K' hK'))
theorem Kt {i j:Nat} {fuel:Nat} {listed:Array Bool} {a:Act} {w:World} (hr:Region.ready md ops listed=[i,j])
  (h1:wpOp P ops Q i (fun a' w'=>(Fa st (listed.setIfInBounds i true)->C w')/\jY P md ops Q C st fuel (listed.setIfInBounds i true) a' w') a w)
  (h2:wpOp P ops Q j (fun a' w'=>(Fa st (listed.setIfInBounds j true)->C w')/\jY P md ops Q C st fuel (listed.setIfInBounds j true) a' w') a w):jY P md ops Q C st (fuel+1) listed a w :=
 ⟨(fun h0=>by rw[hr] at h0;cases h0),fun k hk=>by
  rw[hr] at hk;rcases List.mem_cons.1 hk with rfl | hk
  ·exact h1
  ·obtain rfl:=List.mem_singleton.1 hk;exact h2⟩
theorem kJ {listed:Array Bool} {a:Act} {w:World} (hr:Region.ready md ops listed=[]) (h:Q .normal a w) :
  ∀ fuel,jY P md ops Q C st fuel listed a w
 | 0=>⟨hr,h⟩
 | _+1=>⟨fun _=>h,by rw[hr];simp⟩
theorem jQ {id:Nat} {a:Act} {w:World} (hm:P.follows .mixedOrders=true)
  (h:jY P .any ops Q C st ops.size (Array.replicate ops.size false) a w.drew):(Code.region id ops true).wp P Q a w :=
 wp_region_any hm (Kr _ _ _ _ h)
end
end Go.Proofs.YtkdndfbfmchcpaaGreatDoor
