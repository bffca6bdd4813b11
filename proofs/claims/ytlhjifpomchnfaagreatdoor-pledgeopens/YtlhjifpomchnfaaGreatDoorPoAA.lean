
import Derived.Test.YtlhjifpomchnfaaGreatDoorSpgs
import Derived.Test.YtlhjifpomchnfaaGreatDoorDoms
import Derived.OrdersIn
import Derived.OrdersHeld
import Derived.RangeFuncCalls
import Derived.Test.YtlhjifpomchnfaaGreatDoorChk
import Derived.RangeFuncNested
import Derived.RangeFuncBound
import Derived.RangeFuncLeaves
import Derived.RangeFuncBox
import Derived.RangeFuncWrites
import Derived.Shelf.Abstract
import Derived.WalkKit
import Derived.OwnWalkIn
import Derived.TacticsInMore
import Derived.LoopNIn
import Derived.LoopIn
import Derived.RegionIn
import Derived.BigRegionIn
set_option maxRecDepth 1000000
set_option maxHeartbeats 8000000
namespace Go.Proofs.YtlhjifpomchnfaaGreatDoor
open Go.RowKit
def GoodS (p : Int) : Prop := okPrime p /\ 23 <= p
theorem sponge_yes (q : Nat) (w : World) (h23 : 23 <= q) (h4 : q <= 2147483647) (hpr : Num.Prime q) :
  Calls Tryz.prog 27 #[.int .i64 q] w fun e w' => ∃ s b n d, e = .returned (.tuple #[.pointer (some ⟨s, 0, none⟩), .bool true]) /\ SpgOk q n d /\ SpgAt w' s b q n d /\ Below w.heap.size w w' := by
 have HF := hid (field_yes q w (by omega) h4 hpr)
 have HP := hid hpr
 have hge : (23 : Int) <= (q : Int) := by omega
 clear hpr
 go_enter Tryz.func27, Tryz.ntmps27
 go_wp2_with fail
 refine HF.out.mono ?_
 rintro e w1 ⟨rfl, hc1, hb1, hlt1⟩
 have HC1 := hid hc1
 have HB1 := hid hb1
 clear hc1 hb1
 go_wp2_with fail
 refine (snew_any q w.heap.size w1 HP.out h23 h4 HC1.out).mono ?_
 rintro e w2 ⟨s, n, d, rfl, hls, hok, hat, hb2⟩
 have HE := hid (And.intro hok (And.intro hat (HB1.out.trans (hb2.mono HB1.out.size))))
 clear hok hat hb2
 go_wp2_with fail
 refine (error_nil 0 _).mono ?_
 rintro e w3 ⟨rfl, rfl⟩
 go_wp2_with fail
 go_ret2
 exact ⟨s, _, n, d, rfl, HE.out.1, HE.out.2.1, HE.out.2.2⟩
theorem sponge_no (p : Int) (w : World) (hL : Laid w) (hno : ¬ GoodS p) (hp1 : -9223372036854775808 <= p) (hp2 : p <= 9223372036854775807) :
  Calls Tryz.prog 27 #[.int .i64 p] w fun e w' => e = .returned (.tuple #[.pointer none, .bool true]) /\ Below w.heap.size w w' := by
 by_cases hok : okPrime p
 ·obtain ⟨q, rfl⟩ := Int.eq_ofNat_of_zero_le (show 0 <= p by have := hok.1; omega)
  have hlt : q < 23 := by
   rcases Nat.lt_or_ge q 23 with g | g
   ·exact g
   ·exact absurd ⟨hok, by omega⟩ hno
  obtain ⟨hq3, hq4, hqp⟩ := hok
  rw [Int.toNat_natCast] at hqp
  have HF := hid (field_yes q w (by omega) (by omega) hqp)
  have hlt2 : ¬ (23 : Int) <= (q : Int) := by omega
  have HL := hid hL
  clear hno hqp hL hp1 hp2
  go_enter Tryz.func27, Tryz.ntmps27
  go_wp2_with fail
  refine HF.out.mono ?_
  rintro e w1 ⟨rfl, hc1, hb1, hlt1⟩
  have HC1 := hid hc1
  have HB1 := hid hb1
  have HL1 : Hid (Laid w1) := (hb1.cell (p := ⟨0, 0, none⟩) (cell_lt HL.out)).trans HL.out
  clear hc1 hb1
  go_wp2_with fail
  refine (snew_no q w.heap.size w1 (by omega) hlt HC1.out).mono ?_
  rintro e w2 ⟨rfl, rfl⟩
  go_wp2_with fail
  refine (error_hit 3 3 _ HL1.out).mono ?_
  rintro e w3 ⟨rfl, hb3⟩
  have HB3 : Hid (Below w.heap.size w w3) := HB1.out.trans (hb3.mono HB1.out.size)
  clear hb3
  go_wp2_with fail
  go_ret2
  exact ⟨rfl, HB3.out⟩
 ·have HF := hid (field_no p w hL hok hp1 hp2)
  clear hno hok hL hp1 hp2
  go_enter Tryz.func27, Tryz.ntmps27
  go_wp2_with fail
  refine HF.out.mono ?_
  rintro e w1 ⟨rfl, hb1⟩
  have HB1 := hid hb1
  clear hb1
  go_wp2_with fail
  go_ret2
  exact ⟨rfl, HB1.out⟩
open Go
section
variable {F : Fence} {n : Nat} {P : Program} {ops : Array Oper} {Q : Exit -> Act -> World -> Prop} {md : Region.Mode} {S : World -> Prop}
def NoDefer (ops : Array Oper) : Prop := ∀ (j : Nat) (o : Oper), ops[j]? = some o -> ∀ c, o.op ≠ .defer c
def noDeferB (ops : Array Oper) : Bool := ops.all fun o => match o.op with | .defer _ => false | _ => true
theorem noDefer_of_B (h : noDeferB ops = true) : NoDefer ops := by
 intro j o ho c hc
 unfold noDeferB at h
 rw [Array.all_eq_true] at h
 obtain ⟨hj, rfl⟩ := Array.getElem?_eq_some_iff.1 ho
 have := h j hj
 rw [hc] at this
 cases this
def YieldsR (P : Program) (ops : Array Oper) (S : World -> Prop) (o : Oper) (v : Value) (a : Act) : Prop := YieldsIf P ops S o v a /\ ∀ w, o.about P w a.eval = none
theorem YieldsR.step {i : Nat} {o : Oper} {v : Value} {a : Act} (hnd : NoDefer ops) (hi : ops[i]? = some o) (hy : YieldsR P ops S o v a)
  {K : Act -> World -> Prop} {w : World} (hS : S w) (h : K (a.put o.dst v) w) : wpOpIn F n P ops Q i K a w := by
 unfold Go.wpOpIn
 simp only [hi]
 have hab : ∀ f, o.about P w a.eval = some f -> F.fn f := fun f hf => by rw [hy.2 w] at hf; cases hf
 rcases hy.1 with ⟨hw, hv⟩ | ⟨hw, rfl⟩
 ·simp only [hw, if_true, Oper.wpIn, Oper.semAt_eq _ _ _ (hnd i o hi), hv w hS, Oper.uponIn]; exact ⟨hab, h⟩
 ·simp only [hw, Bool.false_eq_true, if_false]; exact ⟨hab, h⟩
theorem YieldsR.same {o : Oper} {v : Value} {a a' : Act} (hy : YieldsR P ops S o v a) (he : execOp a'.eval o = execOp a.eval o)
  (hw : Region.wanted o (yielded ops a'.tmps) = Region.wanted o (yielded ops a.tmps)) (hb : ∀ w, o.about P w a'.eval = o.about P w a.eval) : YieldsR P ops S o v a' :=
 ⟨hy.1.of_same he hw, fun w => by rw [hb w]; exact hy.2 w⟩
theorem wpOpIn_putR {j : Nat} {oi oj : Oper} {v : Value} (hnd : NoDefer ops) (hj : ops[j]? = some oj) (hap : oi.apart ops oj = true)
  (hsi : ∀ cs b, oi.op ≠ .select cs b) (hsj : ∀ cs b, oj.op ≠ .select cs b)
  (hQ : ∀ c a w, Q (.panic c) (a.put oi.dst v) w -> Q (.panic c) a w) {K : Act -> World -> Prop} {a : Act} {w : World}
  (hy : YieldsR P ops S oi v a) (h : wpOpIn F n P ops Q j K (a.put oi.dst v) w) :
  wpOpIn F n P ops Q j (fun a' w' => YieldsR P ops S oi v a' /\ K (a'.put oi.dst v) w') a w := by
 obtain ⟨h1, h2, h3⟩ := Oper.apart_spec hap
 have keep : ∀ (a : Act), YieldsR P ops S oi v a -> ∀ u, YieldsR P ops S oi v (a.put oj.dst u) := fun a hy u =>
  hy.same (execOp_put oi hsi a oj.dst u h3) (wanted_put oi a oj.dst u h3) (fun w => about_put oi w a oj.dst u h3)
 have keepD : ∀ d, YieldsR P ops S oi v { a with defers := d :: a.defers } := fun d => hy.same rfl rfl (fun _ => rfl)
 have hjd := hnd j oj hj
 unfold wpOpIn at *
 simp only [hj] at *
 rw [wanted_put oj a oi.dst v h1, about_put oj w a oi.dst v h1] at h
 split
 ·rename_i hw
  simp only [hw, if_true] at h
  unfold Oper.wpIn at *
  rw [about_put oj w a oi.dst v h1] at h
  refine ⟨h.1, ?_⟩
  have h := h.2
  rw [Oper.semAt_eq _ _ _ hjd, execOp_put oj hsj a oi.dst v h1] at h
  rw [Oper.semAt_eq _ _ _ hjd]
  generalize (execOp a.eval oj).run P w = r at *
  cases r with
  | ok x w' =>
   cases x <;> simp only [Oper.uponIn] at h ⊢
   case value u => exact ⟨keep a hy u, by rw [<- Act.put_comm a v u h2]; exact h⟩
   case skip => exact ⟨keep a hy _, by rw [<- Act.put_comm a v undef h2]; exact h⟩
   case defer d =>
    refine ⟨keep _ (keepD d) _, ?_⟩
    rw [<- Act.put_comm _ v undef h2, <- Act.put_defers]
    exact h
   case enter f args =>
    refine ⟨h.1, CallsIn.mono h.2 fun e w'' he => ?_⟩
    cases e with
    | returned u => exact ⟨keep a hy u, by rw [<- Act.put_comm a v u h2]; exact he⟩
    | panicked c => exact hQ _ _ _ he
    | outgrown => exact he
   case row row args => exact ⟨h.1, RowsIn.mono h.2 fun u w'' he => ⟨keep a hy u, by rw [<- Act.put_comm a v u h2]; exact he⟩⟩
   case round l f tmps assign body =>
    refine ⟨h.1, RoundIn.mono h.2 fun e w'' he => ?_⟩
    cases e with
    | returned u => exact ⟨keep a hy u, by rw [<- Act.put_comm a v u h2]; exact he⟩
    | panicked c => exact hQ _ _ _ he
    | outgrown => exact he
  | halt x w' =>
   cases x <;> simp only [Oper.uponIn] at h ⊢
   case panic u => exact hQ _ _ _ h
 ·rename_i hw
  simp only [hw] at h
  exact ⟨h.1, keep a hy _, by rw [<- Act.put_comm a v undef h2]; exact h.2⟩
def wpAnyR (F : Fence) (n : Nat) (P : Program) (md : Region.Mode) (ops : Array Oper) (Q : Exit -> Act -> World -> Prop) (S : World -> Prop) : Nat -> Array Bool -> Act -> World -> Prop
 | 0, listed, a, w => Region.ready md ops listed = [] /\ Q .normal a w
 | fuel + 1, listed, a, w =>
  (Region.ready md ops listed = [] -> Q .normal a w) /\
  ∀ i ∈ Region.ready md ops listed, wpOpIn F n P ops Q i (fun a' w' => S w' /\ wpAnyR F n P md ops Q S fuel (listed.setIfInBounds i true) a' w') a w
theorem wpAnyIn_of_R : ∀ (fuel : Nat) (listed : Array Bool) (a : Act) (w : World), wpAnyR F n P md ops Q S fuel listed a w -> wpAnyIn F n P md ops Q fuel listed a w
 | 0, _, _, _, h => h
 | fuel + 1, _, _, _, h => ⟨h.1, fun i hi => wpOpIn_mono (fun a' w' h' => wpAnyIn_of_R fuel _ a' w' h'.2) (h.2 i hi)⟩
theorem wpAnyR_first {i : Nat} {oi : Oper} {v : Value} (hnd : NoDefer ops) (hi : ops[i]? = some oi) (hsel : ∀ (j : Nat) (o : Oper) cs b, ops[j]? = some o -> o.op ≠ .select cs b)
  (hQ : ∀ c a w, Q (.panic c) (a.put oi.dst v) w -> Q (.panic c) a w) :
  ∀ (fuel : Nat) (listed : Array Bool) (a : Act) (w : World),
   (∀ j oj, ops[j]? = some oj -> j ≠ i -> listed.getD j true = false -> (∀ e ∈ oj.after, Region.binds md e = true -> e.on ≠ i) -> oi.apart ops oj = true) ->
   i ∈ Region.ready md ops listed -> YieldsR P ops S oi v a -> S w ->
   wpAnyR F n P md ops Q S fuel (listed.setIfInBounds i true) (a.put oi.dst v) w -> wpAnyR F n P md ops Q S (fuel + 1) listed a w := by
 intro fuel
 induction fuel with
 | zero =>
  intro listed a w _ hr hy hS H
  refine ⟨fun h => (by rw [h] at hr; cases hr), fun j hj => ?_⟩
  by_cases hji : j = i
  ·subst hji; exact hy.step hnd hi hS ⟨hS, H⟩
  ·have := ready_mono hj hji
   rw [H.1] at this
   cases this
 | succ fuel ih =>
  intro listed a w hfree hr hy hS H
  refine ⟨fun h => (by rw [h] at hr; cases hr), fun j hj => ?_⟩
  by_cases hji : j = i
  ·subst hji; exact hy.step hnd hi hS ⟨hS, H⟩
  ·have h1 := H.2 j (ready_mono hj hji)
   obtain ⟨hjun, oj, hoj, hall⟩ := mem_ready.1 hj
   have hnot : ∀ e ∈ oj.after, Region.binds md e = true -> e.on ≠ i := fun e he hb heq => by
    have h1 := hall e he hb
    have h0 := (mem_ready.1 hr).1
    rw [heq] at h1
    rcases Nat.lt_or_ge i listed.size with h' | h'
    ·simp [h'] at h0 h1; rw [h0] at h1; cases h1
    ·simp [Array.getElem?_eq_none h'] at h1
   have h2 := wpOpIn_putR hnd hoj (hfree j oj hoj hji hjun hnot) (fun cs b => hsel i oi cs b hi) (fun cs b => hsel j oj cs b hoj) hQ hy h1
   have hfree' : ∀ k ok, ops[k]? = some ok -> k ≠ i -> (listed.setIfInBounds j true).getD k true = false ->
     (∀ e ∈ ok.after, Region.binds md e = true -> e.on ≠ i) -> oi.apart ops ok = true := fun k ok hk hki hun hno => by
    refine hfree k ok hk hki ?_ hno
    by_cases hjk : j = k
    ·subst hjk; exact hjun
    ·rw [getD_set_ne true hjk] at hun; exact hun
   refine wpOpIn_mono (fun a' w' h3 => ⟨h3.2.1, ih (listed.setIfInBounds j true) a' w' hfree' (ready_mono hr (Ne.symm hji)) h3.1 h3.2.1 ?_⟩) h2
   rw [Array.setIfInBounds_comm _ _ hji]
   exact h3.2.2
theorem wpAnyR_take {i : Nat} {oi : Oper} {v : Value} {fuel : Nat} {listed : Array Bool} {a : Act} {w : World} (hnd : NoDefer ops) (hi : ops[i]? = some oi)
  (hs : Region.noSelect ops = true) (hf : Region.free md ops listed i = true) (hr : (Region.ready md ops listed).contains i = true)
  (hQ : ∀ c a w, Q (.panic c) (a.put oi.dst v) w -> Q (.panic c) a w) (hy : YieldsR P ops S oi v a) (hS : S w)
  (h : wpAnyR F n P md ops Q S fuel (listed.setIfInBounds i true) (a.put oi.dst v) w) : wpAnyR F n P md ops Q S (fuel + 1) listed a w :=
 wpAnyR_first hnd hi (Region.noSelect_spec hs) hQ fuel listed a w (Region.free_spec hi hf) (by simpa using hr) hy hS h
theorem wpAnyR_one {i : Nat} {fuel : Nat} {listed : Array Bool} {a : Act} {w : World} (hr : Region.ready md ops listed = [i])
  (h : wpOpIn F n P ops Q i (fun a' w' => S w' /\ wpAnyR F n P md ops Q S fuel (listed.setIfInBounds i true) a' w') a w) : wpAnyR F n P md ops Q S (fuel + 1) listed a w :=
 ⟨(fun h0 => by rw [hr] at h0; cases h0), fun j hj => by rw [hr] at hj; obtain rfl := List.mem_singleton.1 hj; exact h⟩
theorem wpAnyR_done {listed : Array Bool} {a : Act} {w : World} (hr : Region.ready md ops listed = []) (h : Q .normal a w) :
  ∀ fuel, wpAnyR F n P md ops Q S fuel listed a w
 | 0 => ⟨hr, h⟩
 | _ + 1 => ⟨fun _ => h, by rw [hr]; simp⟩
theorem wpIn_region_R {id : Nat} {a : Act} {w : World} (hm : P.follows .mixedOrders = true)
  (h : wpAnyR F n P .any ops Q S ops.size (Array.replicate ops.size false) a w.drew) : (Code.region id ops true).wpIn F n P Q a w :=
 wpIn_region_any hm (wpAnyIn_of_R _ _ _ _ h)
end
open Go.RowKit Go.Shelf
attribute [local go_sem] Oper.semAt_some
theorem wpListIn_load_an {F : Fence} {n0 : Nat} {P : Program} {ops : Array Oper} {rest : List Oper} {o : Oper} {a : Act} {w : World} {Q : Exit -> Act -> World -> Prop} (hgd : o.guard = none) (ty : TypeId) (x : Operand) (ho : o.op = .load ty x)
  (g : Nat) (hx : a.eval x = .pointer (some ⟨g, 0, none⟩)) (t : TypeId) (n m : Nat) (e : TypeId) (f : Nat -> Int) (hr : ArrI w g t n f) (hu : P.underlying ty = some (.array m e)) (hi : (P.info? ty).map (·.size) = some n)
  (h : wpListIn F n0 P ops Q rest (a.put o.dst (.agg (an n f))) w) : wpListIn F n0 P ops Q (o :: rest) a w :=
 wpListIn_plain hgd fun K hK => by
  have hrun : (execOp a.eval o).run P w = .ok (.value (.agg (an n f))) w := by
   unfold execOp
   simp only [ho, hx, Instr.loadAt, Instr.sureAddr, Sem.run_bind, Sem.run_pure, Result.andThen_ok, run_loadVar_row w g t ty (an n f) (0, 0) _ hr.heap hu rfl (by rw [an_size]; exact hi)]
  unfold Oper.wpIn
  rw [Oper.semAt_eq _ _ _ (by intro c; rw [ho]; exact Op.noConfusion), hrun, Oper.uponIn_value]
  exact ⟨fun f hf => (by unfold Oper.about at hf; rw [ho] at hf; cases hf), hK _ _ h⟩
theorem wpListIn_store_an {F : Fence} {n0 : Nat} {P : Program} {ops : Array Oper} {rest : List Oper} {o : Oper} {a : Act} {w : World} {Q : Exit -> Act -> World -> Prop} (hgd : o.guard = none) (ty : TypeId) (x y : Operand) (ho : o.op = .store ty x y)
  (g n : Nat) (f h0 : Nat -> Int) (hx : a.eval x = .pointer (some ⟨g, 0, none⟩)) (hy : a.eval y = .agg (an n f)) (t : TypeId) (hr : ArrI w g t n h0) (hi : (P.info? ty).map (·.size) = some n)
  (h : wpListIn F n0 P ops Q rest (a.put o.dst undef) (w.setRow g (an n f))) : wpListIn F n0 P ops Q (o :: rest) a w :=
 wpListIn_plain hgd fun K hK => by
  have hrun : (execOp a.eval o).run P w = .ok .skip (w.setRow g (an n f)) := by
   unfold execOp
   simp only [ho, hx, hy, Instr.storeAt, Instr.sureAddr, Sem.run_bind, Sem.run_pure, Result.andThen_ok, run_storeVar_row w g t ty (an n h0) (an n f) hr.heap (by rw [an_size]; exact hi) (by rw [an_size, an_size]) (an_one n f)]
  unfold Oper.wpIn
  rw [Oper.semAt_eq _ _ _ (by intro c; rw [ho]; exact Op.noConfusion), hrun, Oper.uponIn_skip]
  exact ⟨fun f hf => (by unfold Oper.about at hf; rw [ho] at hf; cases hf), hK _ _ h⟩
theorem gb_refl (g : Nat) (W : World) : W.grownBy W (some g) := ⟨rfl, rfl, rfl, Nat.le_refl _, fun _ _ _ => rfl⟩
theorem gb_trans {g : Nat} {A B C : World} (h : A.grownBy B (some g)) (k : B.grownBy C (some g)) : A.grownBy C (some g) :=
 ⟨k.os.trans h.os, k.tape.trans h.tape, k.output.trans h.output, Nat.le_trans h.size k.size, fun i hi hg => (k.block i (Nat.lt_of_lt_of_le hi h.size) hg).trans (h.block i hi hg)⟩
theorem gb_below {g : Nat} {A B : World} (h : Below A.heap.size A B) : A.grownBy B (some g) := ⟨h.os, h.tape, h.output, h.size, fun i hi _ => h.block i hi⟩
theorem gb_drew {g : Nat} {A B : World} (h : A.grownBy B (some g)) : A.grownBy B.drew (some g) := ⟨h.os, h.tape, h.output, h.size, h.block⟩
theorem gb_setCell {g : Nat} {A B : World} (h : A.grownBy B (some g)) (i : Nat) (v : Value) : A.grownBy (B.setCell ⟨g, i, none⟩ v) (some g) :=
 gb_trans h ⟨rfl, rfl, rfl, by simp [World.setCell], fun k _ hk => Below.heap_setCell _ _ _ _ (by intro e; exact hk (by rw [show k = g from e]))⟩
theorem gb_setRow {g : Nat} {A B : World} (h : A.grownBy B (some g)) (cs : Array Value) : A.grownBy (B.setRow g cs) (some g) :=
 gb_trans h ⟨rfl, rfl, rfl, by simp, fun k _ hk => setRow_other _ _ _ _ (by intro e; exact hk (by rw [e]))⟩
theorem gb_blk {g k : Nat} {A B : World} (h : A.grownBy B (some g)) (hk : k < A.heap.size) (hne : k ≠ g) : B.heap[k]? = A.heap[k]? := h.block k hk (by intro e; injection e with e; exact hne e)
theorem gb_cell {g : Nat} {A B : World} (h : A.grownBy B (some g)) {p : Addr} (hk : p.block < A.heap.size) (hne : p.block ≠ g) : B.cell? p = A.cell? p := World.cell?_of_block (gb_blk h hk hne)
def HshI (q n : Nat) (P : Nat -> Int) (g : Nat) (W0 : World) {m : Nat} (pre : List (Fin m)) (W : World) : Prop :=
 (∃ G : Nat -> Int, ArrI W g 123 8 G /\ (∀ j, j < 8 -> 0 <= G j /\ G j < q) /\ ∀ k, CameC pre k -> ∀ j, j < 8 -> G j = hst q n P k j) /\ W0.grownBy W (some g)
theorem HshI.own {q n g m : Nat} {P : Nat -> Int} {W0 : World} (hg : g < W0.heap.size) : OwnFrom W0.heap.size (fun (pre : List (Fin m)) W => HshI q n P g W0 pre W) := by
 rintro s A B row ⟨⟨G, h1, h2, h3⟩, h4⟩ hgr hrow
 have hne : ∀ k, k < W0.heap.size -> some k ≠ row := fun k hk e => by have := (hrow k e.symm).1; omega
 refine ⟨⟨G, h1.block (hgr.block g h1.lt (hne g hg)), h2, h3⟩, hgr.os.trans h4.os, hgr.tape.trans h4.tape, hgr.output.trans h4.output, Nat.le_trans h4.size hgr.size, fun k hk hkg => ?_⟩
 exact (hgr.block k (Nat.lt_of_lt_of_le hk h4.size) (hne k hk)).trans (h4.block k hk hkg)
theorem soak_bounds {q : Nat} {s P : Nat -> Int} {t j : Nat} (h3 : 3 <= q) (h : 0 <= s j /\ s j < q) : 0 <= soak q s P t j /\ soak q s P t j < q := by
 unfold soak
 split
 ·exact emod_bounds _ q h3
 ·exact h
theorem soak_congr {q : Nat} {s s' P : Nat -> Int} {t j : Nat} (h : s j = s' j) : soak q s P t j = soak q s' P t j := by unfold soak; rw [h]
theorem shash_any (q n d b s len cap : Nat) (a : Option Addr) (f : Nat -> Int) (w : World) (ok : SpgOk q n d) (hs : SpgAt w s b q n d) (hlen : len <= 17592186044400) (hfit : FitsF len f) (hrow : RowF (· < w.heap.size) w a len f) :
  Calls Tryz.prog 77 #[.pointer (some ⟨s, 0, none⟩), .slice a len cap] w fun e w' =>
   e = .returned (.slice (some ⟨w.heap.size + 1, 0, none⟩) 4 4) /\ ArrI w' (w.heap.size + 1) 123 8 (hst q n (pdf q f len) (len / 4 + 1)) /\ Below w.heap.size w w' := by
 have h3 : 3 <= q := by have := ok.h23; omega
 have hm := ok.hm
 have HOK := hid ok
 have HS := hid hs
 have HF := hid hfit
 have HR := hid hrow
 have hsl := hs.lt
 have hbl := hs.ltb
 clear hs hfit hrow ok
 obtain ⟨m, hmm⟩ : ∃ m, len / 4 + 1 = m := ⟨_, rfl⟩
 obtain ⟨L, hL⟩ : ∃ L, pln len = L := ⟨_, rfl⟩
 obtain ⟨P, hP⟩ : ∃ P, pdf q f len = P := ⟨_, rfl⟩
 have HLM : Hid (L = 4 * m) := by unfold Hid; rw [<- hL, <- hmm]; rfl
 have HPB : Hid (∀ j, 0 <= P j /\ P j < q) := fun j => by rw [<- hP]; exact pdf_bounds q f len j h3
 have hmb : m <= 17592186044400 := by omega
 rw [hmm, hP]
 have HLE := hid hL
 have HPE := hid hP
 clear hmm hL hP
 have HB1 : Hid (Below w.heap.size w ((w.alloc (.cells #[.pointer (some ⟨s, 0, none⟩)] 23)).alloc (.cells (an 8 (fun _ => 0)) 123))) := ((Below.refl _ _).alloc (Nat.le_refl _) _).alloc (by simp) _
 have HA1 : Hid (ArrI ((w.alloc (.cells #[.pointer (some ⟨s, 0, none⟩)] 23)).alloc (.cells (an 8 (fun _ => 0)) 123)) (w.heap.size + 1) 123 8 (fun _ => 0)) := ArrI.new2 w _ 8 123 (fun _ => 0)
 have hx1 : ((w.alloc (.cells #[.pointer (some ⟨s, 0, none⟩)] 23)).alloc (.cells (an 8 (fun _ => 0)) 123)).cell? ⟨w.heap.size, 0, none⟩ = some (.pointer (some ⟨s, 0, none⟩)) := by
  rw [World.cell?_alloc_lt _ _ ⟨w.heap.size, 0, none⟩ (by simp), World.cell?_alloc_at _ _ _ _ rfl]; rfl
 have hsz1 : ((w.alloc (.cells #[.pointer (some ⟨s, 0, none⟩)] 23)).alloc (.cells (an 8 (fun _ => 0)) 123)).heap.size = w.heap.size + 2 := by simp
 refine (callsIn_wide (n := 8)).1 ?_
 refine callsIn_of_wp_marks Tryz.func77 rfl trivial ?_ rfl
 simp only [Tryz.ntmps77, List.size_toArray, List.length_cons, List.length_nil, Nat.reduceAdd, Nat.reduceSub, Array.replicate_succ, Array.replicate_zero, List.push_toArray, List.append_toArray, List.nil_append, List.cons_append]
 have hmx : Tryz.prog.follows .mixedOrders = true := by kernel_rfl
 gi_wp2_with fail
 rw [show #[Value.int .i64 0, Value.int .i64 0, Value.int .i64 0, Value.int .i64 0, Value.int .i64 0, Value.int .i64 0, Value.int .i64 0, Value.int .i64 0] = an 8 (fun _ => 0) from rfl]
 generalize (w.alloc (.cells #[.pointer (some ⟨s, 0, none⟩)] 23)).alloc (.cells (an 8 (fun _ => 0)) 123) = W1 at *
 have HAT1 := hid (HS.out.keep HB1.out)
 have HX1 := hid hx1
 have HSZ1 := hid hsz1
 have HR1 : Hid (RowF (· < W1.heap.size) W1 a len f) := fun k hk => by
  obtain ⟨b', o', e1, e2, e3⟩ := HR.out k hk
  exact ⟨b', o', e1, Nat.lt_of_lt_of_le e2 HB1.out.size, (HB1.out.cell (p := ⟨b', o' + k, none⟩) e2).trans e3⟩
 clear hx1 hsz1 HS HR
 refine ⟨trivial, (callsIn_wide.2 (spad_any q n d b s len cap a f W1 h3 hm HAT1.out hlen HF.out HR1.out)).mono ?_⟩
 rintro e w2 ⟨rfl, hA2, hb2⟩
 rw [HLE.out] at hA2
 rw [HLE.out]
 rw [HPE.out] at hA2
 rw [HSZ1.out] at hA2
 rw [HSZ1.out]
 have HPD := hid hA2
 have HA2 := hid (HA1.out.below hb2 HA1.out.lt)
 have HAT2 := hid (HAT1.out.keep hb2)
 have HX2 := hid ((hb2.cell (p := ⟨w.heap.size, 0, none⟩) (by rw [HSZ1.out]; show w.heap.size < _; omega)).trans HX1.out)
 have HB2 : Hid (Below w.heap.size w w2) := HB1.out.trans (hb2.mono HB1.out.size)
 have hs2 : w.heap.size + 2 < w2.heap.size := hA2.lt
 clear hA2 hb2 HA1 HAT1 HX1 HB1 HR1 HF hlen HLE HPE
 gi_wp2_with fail
 refine ⟨trivial, (chunk_in Fence.wide _ trivial rfl _ _ _ _).mono ?_⟩
 rintro e w3 ⟨rfl, rfl⟩
 gi_wp2_with fail
 obtain ⟨Bs, hBs⟩ := exE (w2.heap.size)
 rw [<- hBs]
 have HBX : Hid (Below w2.heap.size w2 ((w2.alloc (.cells #[.slice (some ⟨w.heap.size + 2, 0, none⟩) L L] 22)).alloc (.cells #[.int .i64 4] 3))) := ((Below.refl _ _).alloc (Nat.le_refl _) _).alloc (by simp) _
 have HC1 : Hid (((w2.alloc (.cells #[.slice (some ⟨w.heap.size + 2, 0, none⟩) L L] 22)).alloc (.cells #[.int .i64 4] 3)).cell? ⟨Bs, 0, none⟩ = some (.slice (some ⟨w.heap.size + 2, 0, none⟩) L L)) := by
  unfold Hid
  rw [World.cell?_alloc_lt _ _ ⟨Bs, 0, none⟩ (by simp; omega), World.cell?_alloc_at _ _ _ _ (by show Bs = _; omega)]; rfl
 have HC2 : Hid (((w2.alloc (.cells #[.slice (some ⟨w.heap.size + 2, 0, none⟩) L L] 22)).alloc (.cells #[.int .i64 4] 3)).cell? ⟨Bs + 1, 0, none⟩ = some (.int .i64 4)) := by
  unfold Hid
  rw [World.cell?_alloc_at _ _ _ _ (by simp; omega)]; rfl
 have HZ0 : Hid (((w2.alloc (.cells #[.slice (some ⟨w.heap.size + 2, 0, none⟩) L L] 22)).alloc (.cells #[.int .i64 4] 3)).heap.size = Bs + 2) := by unfold Hid; simp; omega
 have HPD0 := hid (HPD.out.below HBX.out HPD.out.lt)
 have HA0 := hid (HA2.out.below HBX.out HA2.out.lt)
 have HAT0 := hid (HAT2.out.keep HBX.out)
 have HX0 := hid ((HBX.out.cell (p := ⟨w.heap.size, 0, none⟩) (by show w.heap.size < _; omega)).trans HX2.out)
 have HB0 : Hid (Below w.heap.size w ((w2.alloc (.cells #[.slice (some ⟨w.heap.size + 2, 0, none⟩) L L] 22)).alloc (.cells #[.int .i64 4] 3))) := HB2.out.trans (HBX.out.mono HB2.out.size)
 clear HPD HA2 HAT2 HX2 HB2 HBX
 generalize (w2.alloc (.cells #[.slice (some ⟨w.heap.size + 2, 0, none⟩) L L] 22)).alloc (.cells #[.int .i64 4] 3) = W0 at *
 have hBl : w.heap.size + 2 < Bs := by omega
 clear hBs hs2
 have hg0 : w.heap.size + 1 < W0.heap.size := by rw [HZ0.out]; omega
 have HF0 : Hid (∀ wr : World, W0.grownBy wr (some (w.heap.size + 1)) -> SpgAt wr s b q n d /\ wr.cell? ⟨w.heap.size, 0, none⟩ = some (.pointer (some ⟨s, 0, none⟩)) /\ ArrI wr (w.heap.size + 2) 3 L P) := fun wr h =>
  ⟨HAT0.out.blocks (gb_blk h (by rw [HZ0.out]; omega) (by omega)) (gb_blk h (by rw [HZ0.out]; omega) (by omega)), (gb_cell h (p := ⟨w.heap.size, 0, none⟩) (by show w.heap.size < _; rw [HZ0.out]; omega) (by show w.heap.size ≠ _; omega)).trans HX0.out, HPD0.out.block (gb_blk h (by rw [HZ0.out]; omega) (by omega))⟩
 refine wpIn_rangeFunc_ownG rfl (by omega) (gf := 199) (lb := #[.pointer (some ⟨Bs, 0, none⟩), .pointer (some ⟨Bs + 1, 0, none⟩)]) rfl trivial (enters_of Tryz.func199 (by kernel_rfl) (by kernel_rfl))
  (chunk_stops Fence.wide 7 trivial rfl (by omega) Bs (w.heap.size + 2) L m HLM.out (by omega) W0 HC1.out HC2.out (by rw [HZ0.out]; omega))
  (fun h k => h.trans k)
  (fun W l q q' hl h h1 h2 => ⟨World.cell?_of_block (World.putObj_heap_other (by rw [HZ0.out] at hl; show Bs ≠ l; omega)), World.cell?_of_block (World.putObj_heap_other (by rw [HZ0.out] at hl; show Bs + 1 ≠ l; omega))⟩)
  (Below.refl _ _) (fun _ => rfl)
  (fun pre W => HshI q n P (w.heap.size + 1) W0 pre W)
  (fun _ _ _ => False)
  (HshI.own hg0)
  (fun _ _ _ _ _ hs _ _ => hs)
  ⟨⟨fun _ => 0, HA0.out, fun j _ => by show (0 : Int) <= 0 /\ (0 : Int) < (q : Int); omega, fun k hk j _ => by
   have := cameC_length hk
   simp at this
   subst this
   rfl⟩, gb_refl _ _⟩
  (fun x => { tmps := #[.pointer (some ⟨s, 0, none⟩), .slice a len cap, .pointer (some ⟨w.heap.size, 0, none⟩), undef, .slice none 0 0, .pointer (some ⟨w.heap.size + 1, 0, none⟩), .slice (some ⟨w.heap.size + 2, 4 * x.val, none⟩) 4 4, undef, undef, .pointer (some ⟨s, 0, none⟩), .slice a len cap, .slice (some ⟨w.heap.size + 2, 0, none⟩) L L, .func (.func 199) #[] #[.pointer (some ⟨Bs, 0, none⟩), .pointer (some ⟨Bs + 1, 0, none⟩)], .slice (some ⟨w.heap.size + 2, 4 * x.val, none⟩) 4 4, undef, undef, undef, undef, undef, undef, undef, undef, undef, undef, undef, undef, undef, undef, undef, undef, undef, undef, undef, undef, undef, undef, undef], defers := [] })
  ?assign ?body ?done ?stop
 case assign =>
  intro l x W K hK
  gi_wp2
  exact hK
 case body =>
  rintro l pre x W ⟨⟨G, hG, hGb, hGc⟩, hgb⟩ hpl2
  have hxl := x.isLt
  have HG := hid hG
  have HGB := hid hGb
  have HGC := hid hGc
  have HGR := hid hgb
  clear hG hGb hGc hgb
  obtain ⟨t, ht⟩ : ∃ t : Nat, x.val = t := ⟨_, rfl⟩
  have HT := hid ht
  rw [ht]
  rw [ht] at hxl
  clear ht
  have hL4 : 4 * t + 4 <= L := by have := HLM.out; omega
  gi_wp2
  gi_loopw [16] (fun iv wr => ∃ k : Nat, k <= 4 /\ iv = .int .i64 k /\ Hid (ArrI wr (w.heap.size + 1) 123 8 (fll (soak q G P t) G k)) /\ Hid (W.grownBy wr (some (w.heap.size + 1))))
   (fun iv _ => 4 - (intOf iv).toNat)
  case atStart => exact ⟨0, by omega, rfl, by rw [fll_zero]; exact HG.out, gb_refl _ _⟩
  case round =>
   obtain ⟨k, hk, rfl, hA, hgr⟩ := hrel
   have HW := hid (HF0.out wr (gb_trans HGR.out hgr.out))
   by_cases hlt : k < 4
   ·have hlt2 : (k : Int) < 4 := by omega
    have hlt8 : (k : Int) < 8 := by omega
    have hks : IntKind.i64.wrap ((k : Int) + 1) = (k : Int) + 1 := by rw [IntKind.wrap_i64]; omega
    have hpx := HW.out.2.2.cell (i := 4 * t + k) (by omega)
    have hbx := HW.out.2.1
    have hsf := HW.out.1.f
    have c1 := hA.out.cell (i := k) (by omega)
    have y1 := hA.out.frozen k
    rw [fll_at] at c1
    have hpb := HPB.out (4 * t + k)
    have hgb2 := HGB.out k (by omega)
    have HSK : Hid ((G k + P (4 * t + k)) % (q : Int) = soak q G P t k) := by unfold Hid soak; rw [if_pos hlt]
    have HE : Hid (ArrI (wr.setCell ⟨w.heap.size + 1, k, none⟩ (.int .i64 (soak q G P t k))).drew (w.heap.size + 1) 123 8 (fll (soak q G P t) G (k + 1)) /\ W.grownBy (wr.setCell ⟨w.heap.size + 1, k, none⟩ (.int .i64 (soak q G P t k))).drew (some (w.heap.size + 1))) :=
     ⟨hA.out.next, gb_drew (gb_setCell hgr.out k _)⟩
    have HMx := hid (add_any q b (G k) (P (4 * t + k)) wr.drew h3 hm HW.out.1.p (by omega) (by omega) (by omega) (by omega))
    rw [HSK.out] at HMx
    clear hpb hgb2 hA hgr HSK HW
    generalize soak q G P t k = x1 at *
    generalize G k = y at *
    generalize P (4 * t + k) = z at *
    gi_wp2
    have hne1 : ∀ u, (wr.setCell ⟨w.heap.size + 1, k, none⟩ u).cell? ⟨w.heap.size, 0, none⟩ = some (.pointer (some ⟨s, 0, none⟩)) := fun u => (World.cell?_setCell_other _ _ _ _ (by intro e; injection e with h1 _ _; omega)).trans hbx
    have hne2 : ∀ u, (wr.setCell ⟨w.heap.size + 1, k, none⟩ u).cell? ⟨s, 0, none⟩ = some (.pointer (some ⟨b, 0, none⟩)) := fun u => (World.cell?_setCell_other _ _ _ _ (by intro e; injection e with h1 _ _; omega)).trans hsf
    have HN := hid (And.intro hne1 hne2)
    clear hne1 hne2
    have hS0 : wr.drew.cell? ⟨w.heap.size, 0, none⟩ = some (.pointer (some ⟨s, 0, none⟩)) /\ wr.drew.cell? ⟨s, 0, none⟩ = some (.pointer (some ⟨b, 0, none⟩)) := ⟨hbx, hsf⟩
    refine wpIn_region_R (S := fun W => W.cell? ⟨w.heap.size, 0, none⟩ = some (.pointer (some ⟨s, 0, none⟩)) /\ W.cell? ⟨s, 0, none⟩ = some (.pointer (some ⟨b, 0, none⟩))) hmx ?_
    show wpAnyR _ _ _ _ _ _ _ 12 (Array.replicate 12 false) _ _
    refine wpAnyR_take (i := 0) (v := .int .i64 (k : Int)) (noDefer_of_B (by kernel_rfl)) rfl (by kernel_rfl) (by kernel_rfl) (by kernel_rfl) (fun _ _ _ h => h) ⟨Or.inl ⟨by rfl, fun W hS => ?_⟩, fun W => ?_⟩ hS0 ?_
    ·obtain ⟨s1, s2⟩ := hS
     go_simp
    ·first | rfl | go_simp
    refine wpAnyR_take (i := 5) (v := .int .i64 (k : Int)) (noDefer_of_B (by kernel_rfl)) rfl (by kernel_rfl) (by kernel_rfl) (by kernel_rfl) (fun _ _ _ h => h) ⟨Or.inl ⟨by rfl, fun W hS => ?_⟩, fun W => ?_⟩ hS0 ?_
    ·obtain ⟨s1, s2⟩ := hS
     go_simp
    ·first | rfl | go_simp
    refine wpAnyR_take (i := 8) (v := .int .i64 z) (noDefer_of_B (by kernel_rfl)) rfl (by kernel_rfl) (by kernel_rfl) (by kernel_rfl) (fun _ _ _ h => h) ⟨Or.inl ⟨by rfl, fun W hS => ?_⟩, fun W => ?_⟩ hS0 ?_
    ·obtain ⟨s1, s2⟩ := hS
     go_simp
    ·first | rfl | go_simp
    refine wpAnyR_take (i := 1) (v := .pointer (some ⟨s, 0, none⟩)) (noDefer_of_B (by kernel_rfl)) rfl (by kernel_rfl) (by kernel_rfl) (by kernel_rfl) (fun _ _ _ h => h) ⟨Or.inl ⟨by rfl, fun W hS => ?_⟩, fun W => ?_⟩ hS0 ?_
    ·obtain ⟨s1, s2⟩ := hS
     go_simp
    ·first | rfl | go_simp
    refine wpAnyR_take (i := 2) (v := .pointer (some ⟨s, 0, none⟩)) (noDefer_of_B (by kernel_rfl)) rfl (by kernel_rfl) (by kernel_rfl) (by kernel_rfl) (fun _ _ _ h => h) ⟨Or.inl ⟨by rfl, fun W hS => ?_⟩, fun W => ?_⟩ hS0 ?_
    ·obtain ⟨s1, s2⟩ := hS
     go_simp
    ·first | rfl | go_simp
    refine wpAnyR_take (i := 3) (v := .pointer (some ⟨s, 0, none⟩)) (noDefer_of_B (by kernel_rfl)) rfl (by kernel_rfl) (by kernel_rfl) (by kernel_rfl) (fun _ _ _ h => h) ⟨Or.inl ⟨by rfl, fun W hS => ?_⟩, fun W => ?_⟩ hS0 ?_
    ·obtain ⟨s1, s2⟩ := hS
     go_simp
    ·first | rfl | go_simp
    refine wpAnyR_take (i := 4) (v := .pointer (some ⟨b, 0, none⟩)) (noDefer_of_B (by kernel_rfl)) rfl (by kernel_rfl) (by kernel_rfl) (by kernel_rfl) (fun _ _ _ h => h) ⟨Or.inl ⟨by rfl, fun W hS => ?_⟩, fun W => ?_⟩ hS0 ?_
    ·obtain ⟨s1, s2⟩ := hS
     go_simp
    ·first | rfl | go_simp
    refine wpAnyR_take (i := 6) (v := .pointer (some ⟨w.heap.size + 1, k, none⟩)) (noDefer_of_B (by kernel_rfl)) rfl (by kernel_rfl) (by kernel_rfl) (by kernel_rfl) (fun _ _ _ h => h) ⟨Or.inl ⟨by rfl, fun W hS => ?_⟩, fun W => ?_⟩ hS0 ?_
    ·obtain ⟨s1, s2⟩ := hS
     go_simp
    ·first | rfl | go_simp
    refine wpAnyR_one (i := 7) (by kernel_rfl) ?_
    refine YieldsR.step (S := fun W => W.cell? ⟨w.heap.size + 1, k, none⟩ = some (.int .i64 y)) (v := .int .i64 y) (noDefer_of_B (by kernel_rfl)) rfl ⟨Or.inl ⟨by rfl, fun W hS => ?_⟩, fun W => ?_⟩ c1 ⟨hS0, ?_⟩
    ·go_simp
    ·first | rfl | go_simp
    refine wpAnyR_one (i := 9) (by kernel_rfl) ?_
    refine wpOpIn_step rfl (fun K' hK' => ?_)
    rw [if_pos (by rfl)]
    go_simp
    refine ⟨trivial, (CallsIn.inRound l (callsIn_wide.2 HMx.out)).mono ?_⟩
    rintro e w6 ⟨rfl, rfl⟩
    refine hK' _ _ ⟨hS0, ?_⟩
    clear hK' K'
    refine wpAnyR_one (i := 10) (by kernel_rfl) ?_
    refine YieldsR.step (S := fun _ => True) (v := .pointer (some ⟨w.heap.size + 1, k, none⟩)) (noDefer_of_B (by kernel_rfl)) rfl ⟨Or.inl ⟨by rfl, fun W hS => ?_⟩, fun W => ?_⟩ trivial ⟨hS0, ?_⟩
    ·go_simp
    ·first | rfl | go_simp
    refine wpAnyR_one (i := 11) (by kernel_rfl) ?_
    refine wpOpIn_step rfl (fun K' hK' => ?_)
    rw [if_pos (by rfl)]
    go_simp
    refine hK' _ _ ⟨⟨HN.out.1 _, HN.out.2 _⟩, wpAnyR_done (by kernel_rfl) ?_ _⟩
    clear hK' K'
    gi_wp2_with fail
    go_roundw
    case rel => exact ⟨k + 1, by omega, by go_num, HE.out.1, HE.out.2⟩
    case measure => simp [intOf]; omega
   ·obtain rfl : k = 4 := by omega
    have HA4 : Hid (ArrI wr (w.heap.size + 1) 123 8 (soak q G P t)) := hA.out.congr (fun j hj => by
     unfold fll
     by_cases h : j < 4
     ·rw [if_pos h]
     ·rw [if_neg h]; unfold soak; rw [if_neg h])
    have hbx := HW.out.2.1
    have hltA := HA4.out.lt
    have HGW := hid hgr.out
    have HSW := hid HW.out.1
    have HSB : Hid (∀ j, j < 8 -> 0 <= soak q G P t j /\ soak q G P t j < q) := fun j hj => soak_bounds h3 (HGB.out j hj)
    clear hA hgr HW
    gi_wp2_with (refine wpListIn_load_an rfl 123 _ rfl _ rfl _ _ _ _ _ HA4.out Tryz.underlying123 (by kernel_rfl) ?_)
    refine ⟨trivial, (CallsIn.inRound l (callsIn_wide.2 (permuted_any q n d b s (soak q G P t) wr HOK.out HSW.out HSB.out))).mono ?_⟩
    rintro e w6 ⟨rfl, hb6⟩
    have HA6 := hid (HA4.out.below hb6 hltA)
    have HG6 : Hid (W.grownBy w6 (some (w.heap.size + 1))) := gb_trans HGW.out (gb_below hb6)
    clear hb6 HA4 HGW HSW
    gi_wp2_with (refine wpListIn_store_an rfl 123 _ _ rfl _ _ _ _ rfl rfl _ HA6.out (by kernel_rfl) ?_)
    refine ⟨KeepsFrom.of_grownBy (gb_setRow HG6.out _) (fun j e => by cases e; exact hg0), ⟨gb_cell (gb_setRow HG6.out _) (p := ⟨Bs, 0, none⟩) (by have := HGR.out.size; rw [HZ0.out] at this; show Bs < _; omega) (by show Bs ≠ _; omega), gb_cell (gb_setRow HG6.out _) (p := ⟨Bs + 1, 0, none⟩) (by have := HGR.out.size; rw [HZ0.out] at this; show Bs + 1 < _; omega) (by show Bs + 1 ≠ _; omega)⟩,
     ⟨stir q n (soak q G P t) 8, HA6.out.setRow _, fun j _ => stir_bounds q n _ 8 j h3, fun k hk j hj => ?_⟩, gb_trans HGR.out (gb_setRow HG6.out _)⟩
    obtain ⟨k', rfl⟩ : ∃ k', k = k' + 1 := by
     cases k with
     | zero => have := cameC_length hk; simp at this
     | succ k' => exact ⟨k', rfl⟩
    obtain ⟨hc1, hc2⟩ := cameC_inv hk
    obtain rfl : t = k' := by rw [<- HT.out, hc2]
    show _ = stir q n (soak q (hst q n P t) P t) 8 j
    exact stir_congr (by omega) (fun i hi => by rw [soak_congr (HGC.out t hc1 i hi)]) 8 j hj
 case done =>
  rintro D ys W hD hys ⟨⟨G, hG, hGb, hGc⟩, hgb⟩ hK
  have HG : Hid (ArrI W (w.heap.size + 1) 123 8 (hst q n P m)) := hG.congr (fun j hj => hGc m hys j hj)
  have HGR := hid hgb
  clear hG hGb hGc hgb hys
  gi_wp2
  refine ⟨by simp, .inl ⟨_, _, rfl, run_takeDeferred hK, ?_⟩⟩
  have hne : w.heap.size + 1 ≠ D := by omega
  refine ⟨_, results_tmp rfl _ _ _, rfl, HG.out.block (World.putObj_heap_other hne), ?_⟩
  have hb1 : Below w.heap.size w W := HB0.out.trans ⟨HGR.out.os, HGR.out.tape, HGR.out.output, HGR.out.size, fun k hk => gb_blk HGR.out (by rw [HZ0.out]; omega) (by omega)⟩
  exact hb1.trans (belowK_b (w := w) (Nat.le_refl _) W D _ _ (by rw [HZ0.out] at hD; omega) hK rfl rfl)
 case stop =>
  rintro D c pre W _ _ h _
  exact h.elim
theorem take_snoc {zs : List Int} {k : Nat} (h : k < zs.length) : zs.take k ++ [zat zs k] = zs.take (k + 1) := by
 unfold zat
 rw [List.take_add_one, List.getElem?_eq_getElem h]
 simp
theorem vals1_in (F : Fence) (n : Nat) (hf : F.fn 204) (hro : F.round = none) (hn : 1 <= n) (l Bs n0 cap : Nat) (a : Option Addr) (zs : List Int) (hlen : zs.length <= 140737488351232) (J Jx : List Int -> World -> Prop)
  (hY : ∀ pre x W, J pre W -> pre.length < zs.length -> YieldAt F (n - 1) Tryz.prog l #[.int .i64 x] W fun e W' =>
   (e = .returned (.bool true) /\ J (pre ++ [x]) W' /\ Below n0 W W') ∨ (e = .returned (.bool false) /\ Jx (pre ++ [x]) W'))
  (W : World) (hBs : W.cell? ⟨Bs, 0, none⟩ = some (.slice a zs.length cap)) (hc : RowB n0 W a zs) (h0 : J [] W) :
  CallsIn F n Tryz.prog 204 #[.func (.yield l) #[] #[], .pointer (some ⟨Bs, 0, none⟩)] W fun e W' => (∃ v, e = .returned v) /\
   ((∃ ys, ys = zs /\ J ys W') ∨ (∃ pre, True /\ Jx pre W')) := by
 have HC := hid hc
 clear hc
 refine callsIn_of_wp Tryz.func204 rfl hf ?_ hro
 simp only [Tryz.ntmps204, List.size_toArray, List.length_cons, List.length_nil, Nat.reduceAdd, Nat.reduceSub, Array.replicate_succ, Array.replicate_zero, List.push_toArray, List.append_toArray, List.nil_append, List.cons_append]
 gi_wp2
 gi_loopw [7] (fun iv wr => ∃ k : Nat, k <= zs.length /\ iv = .int .i64 k /\ J (zs.take k) wr /\ Hid (Below n0 W wr))
  (fun iv _ => zs.length - (intOf iv).toNat)
 case atStart => exact ⟨0, Nat.zero_le _, rfl, h0, Below.refl _ _⟩
 case round =>
  obtain ⟨k, hk, rfl, hJs, hkp⟩ := hrel
  by_cases hlt : k < zs.length
  ·have hlt2 : (k : Int) < (zs.length : Int) := by omega
   have hks : IntKind.i64.wrap ((k : Int) + 1) = (k : Int) + 1 := by rw [IntKind.wrap_i64]; omega
   obtain ⟨b, o, rfl, hbn, hcell⟩ := HC.out k hlt
   have hcell2 := (hkp.out.cell (p := ⟨b, o + k, none⟩) hbn).trans hcell
   obtain ⟨fn, tmps, assign, body, hy, hR⟩ := hY (zs.take k) (zat zs k) wr hJs (by rw [List.length_take]; omega)
   rw [take_snoc hlt] at hR
   clear hcell HC
   generalize zat zs k = x at *
   gi_wp2
   refine hR.mono ?_
   rintro e W3 (⟨rfl, hJ3, hk3⟩ | ⟨rfl, hJx3⟩)
   ·have HK3 := hid (hkp.out.trans hk3)
    clear hk3
    gi_wp2
    go_roundw
    case rel => exact ⟨k + 1, by omega, by go_num, hJ3, HK3⟩
    case measure => simp [intOf]; omega
   ·gi_wp2
    refine bodyPost_ret (results_none rfl _ _ _) rfl ?_
    exact ⟨⟨_, rfl⟩, .inr ⟨_, trivial, hJx3⟩⟩
  ·obtain rfl : k = zs.length := by omega
   rw [List.take_length] at hJs
   gi_wp2
   go_end0
   exact ⟨⟨_, rfl⟩, .inl ⟨_, rfl, hJs⟩⟩
theorem vals_any (a : Option Addr) (len cap : Nat) (w : World) :
  Calls Tryz.prog 158 #[.slice a len cap] w fun e w' => e = .returned (.func (.func 204) #[] #[.pointer (some ⟨w.heap.size, 0, none⟩)]) /\ w' = w.alloc (.cells #[.slice a len cap] 22) := by
 go_enter Tryz.func158, Tryz.ntmps158
 go_wp2
 go_ret
 exact ⟨rfl, rfl⟩
theorem vals_stops (F : Fence) (n : Nat) (hf : F.fn 204) (hro : F.round = none) (hn : 1 <= n) (Bs n0 cap : Nat) (a : Option Addr) (zs : List Int) (hlen : zs.length <= 140737488351232) (w : World) (hn0 : n0 <= w.heap.size)
  (hc : w.cell? ⟨Bs, 0, none⟩ = some (.slice a zs.length cap)) (hbs : Bs < w.heap.size) (hI : RowB n0 w a zs) :
  SeqStopsK F n Tryz.prog 204 #[.pointer (some ⟨Bs, 0, none⟩)] (fun x : Int => #[Value.int .i64 x]) (Below n0) (fun ys => ys = zs)
   (fun _ => True) zs.length w := fun l J Jx W hW _ _ hY h0 =>
 vals1_in F n hf hro hn l Bs n0 cap a zs hlen J Jx hY W ((hW.cell (p := ⟨Bs, 0, none⟩) hbs).trans hc) (RowB.below (hW.mono hn0) hI) h0
theorem appendseq_any (Bs cap : Nat) (a : Option Addr) (zs : List Int) (w : World) (hlen : zs.length <= 17592186044400) (hc : w.cell? ⟨Bs, 0, none⟩ = some (.slice a zs.length cap)) (hI : RowB w.heap.size w a zs) :
  Calls Tryz.prog 242 #[.slice none 0 0, .func (.func 204) #[] #[.pointer (some ⟨Bs, 0, none⟩)]] w fun e w' => ∃ v, e = .returned v /\ w'.ownsRow w.heap.size 3 1 v zs.length (zs.map (Value.int .i64)) /\ (v = .slice none 0 0 ↔ zs = []) /\ Below w.heap.size w w' := by
 have hbs : Bs < w.heap.size := heap_lt hc
 obtain ⟨i0, hi, hz0, hz1, hz2⟩ := info_parts Tryz.infoInt
 refine (callsIn_wide (n := 8)).1 ?_
 refine callsIn_of_wp_marks Tryz.func242 rfl trivial ?_ rfl
 simp only [Tryz.ntmps242, List.size_toArray, List.length_cons, List.length_nil, Nat.reduceAdd, Nat.reduceSub, Array.replicate_succ, Array.replicate_zero, List.push_toArray, List.append_toArray, List.nil_append, List.cons_append]
 gi_wp2
 have bO := Boxed.new w 22 (.slice none 0 0)
 have hB0 : Below w.heap.size w (w.alloc (.cells #[.slice none 0 0] 22)) := (Below.refl _ w).alloc (Nat.le_refl _) _
 have hc0 := (hB0.cell (p := ⟨Bs, 0, none⟩) hbs).trans hc
 refine wpIn_rangeFunc_ownG rfl (by omega) (gf := 204) (lb := #[.pointer (some ⟨Bs, 0, none⟩)]) rfl trivial (enters_of Tryz.func204 (by kernel_rfl) (by kernel_rfl))
  (vals_stops Fence.wide 7 trivial rfl (by omega) Bs w.heap.size cap a zs (by omega) (w.alloc (.cells #[.slice none 0 0] 22)) (by simp) hc0 (by simp; omega) (RowB.below hB0 hI)) belowK_t (belowK_b (by simp)) (Below.refl _ _) (fun _ => rfl)
  (fun pre W => (∃ v, Boxed W w.heap.size 22 v /\ W.ownsRow w.heap.size 3 1 v pre.length (pre.map (Value.int .i64)) /\ (v = .slice none 0 0 ↔ pre = [])) /\ Below w.heap.size w W)
  (fun _ _ _ => False)
  (OwnFrom.and (Own.from (holdsRow_own w.heap.size w.heap.size 22 3 1 (fun pre : List Int => pre.length) (fun pre => pre.map (Value.int .i64)) (fun pre v => v = .slice none 0 0 ↔ pre = [])) _) (ownFrom_below (Nat.le_refl _) (by simp)))
  (fun _ _ _ _ _ hs _ _ => hs)
  ⟨⟨_, bO, World.ownsRow_nil _ _ _ _, by simp⟩, hB0⟩
  (fun x => { tmps := #[.slice none 0 0, .func (.func 204) #[] #[.pointer (some ⟨Bs, 0, none⟩)], .pointer (some ⟨w.heap.size, 0, none⟩), undef, .slice none 0 0, .int .i64 x, .func (.func 204) #[] #[.pointer (some ⟨Bs, 0, none⟩)], .int .i64 x, undef, undef, undef, undef, undef], defers := [] }) ?assign ?body ?done ?stop
 case assign =>
  intro l x W K hK
  gi_wp2
  exact hK
 case body =>
  rintro l pre x W ⟨⟨v, hv, hrow, hnil⟩, hB⟩ hlt
  have hcv := hv.cell
  gi_wp2_with (gi_at_builtin; refine wpListIn_append_own _ rfl _ _ 22 rfl w.heap.size 3 i0 (.int .i64 0) 1 8 Tryz.underlying22 hi hz0 hz1 hz2 rfl (by decide) _ _ _ rfl (hrow.alloc _) ⟨W.heap.size, 0, none⟩ 1 1 [.int .i64 x] rfl rfl (cell_one_new _ _ _) (by simp [Value.oneCell']) (by unfold maxLen; omega) (by omega) (by have := hB.size; simp; omega) ?_; intro v' w1 hown' hgrow _; obtain ⟨g', cap', rfl⟩ := ownsRow_succ hown'; obtain ⟨hv1, hv2, hr2, hk2, hb2⟩ := hv.appended (by decide) hrow hB.size (Nat.le_refl _) hown' hgrow; have hc1 := hv1.cell; have hf1 := hv1.frozen)
  exact ⟨hk2.from _, hb2, ⟨_, hv2, by simpa using hr2, by simp⟩, hB.trans hb2⟩
 case done =>
  rintro D ys W hD rfl ⟨⟨v, hv, hrow, hnil⟩, hB⟩ hK
  have hcv := hv.cell
  gi_wp2
  refine ⟨by simp, .inl ⟨_, _, rfl, run_takeDeferred hK, ?_⟩⟩
  exact ⟨_, results_tmp rfl _ _ _, v, rfl, ownsRow_putObj hrow _ hK rfl, hnil, hB.trans (belowK_b (w := w) (Nat.le_refl _) W D _ _ (by simp at hD; omega) hK rfl rfl)⟩
 case stop =>
  rintro D c pre W _ _ h _
  exact h.elim
theorem collect_any (Bs cap : Nat) (a : Option Addr) (zs : List Int) (w : World) (hlen : zs.length <= 17592186044400) (hc : w.cell? ⟨Bs, 0, none⟩ = some (.slice a zs.length cap)) (hI : RowB w.heap.size w a zs) :
  Calls Tryz.prog 203 #[.func (.func 204) #[] #[.pointer (some ⟨Bs, 0, none⟩)]] w fun e w' => ∃ v, e = .returned v /\ w'.ownsRow w.heap.size 3 1 v zs.length (zs.map (Value.int .i64)) /\ (v = .slice none 0 0 ↔ zs = []) /\ Below w.heap.size w w' := by
 have HA := hid (appendseq_any Bs cap a zs w hlen hc hI)
 clear hc hI
 go_enter Tryz.func203, Tryz.ntmps203
 go_wp2_with fail
 refine HA.out.mono ?_
 rintro e w1 ⟨v, rfl, h⟩
 have H := hid h
 clear h
 go_wp2_with fail
 go_ret
 exact ⟨v, rfl, H.out⟩
end Go.Proofs.YtlhjifpomchnfaaGreatDoor
