/- areUnlike: sorted and compacted as long as before if and only if no two are the same element. slices.Backward over a list of numbers, by its own text: what comes round by round, from the end of the list on. What the field's method Invs answers: a new list, what makes 1 of each number of the given list; nothing that was there has turned. A region that draws its order inside a round of a loop over a function: an operation that yields its value in every world of a kind may be taken first. Own law, after the shape of the library's law for a region outside a round. -/
import Derived.Test.YtpgnabmkfkcogaaGreatDoorGmAB
import Derived.Sort.OwnSortedInts
import Derived.RangeFuncNested
import Derived.RangeFuncBound
import Derived.RangeFuncCalls
import Derived.RangeFuncLeaves
import Derived.RangeFuncBox
import Derived.RangeFuncWrites
import Derived.Shelf.Abstract
import Derived.WalkKit
import Derived.OwnWalkIn
import Derived.TacticsInMore
import Derived.LoopNIn
import Derived.LoopIn
import Derived.Test.YtpgnabmkfkcogaaGreatDoorFld
import Derived.Deep.OwnRows
import Derived.Shelf.RegionOpen
import Derived.RegionIn
import Derived.OrdersIn
import Derived.OrdersHeld
namespace Go.Proofs.YtpgnabmkfkcogaaGreatDoor
open Go.RowKit Go.Sort

end Go.Proofs.YtpgnabmkfkcogaaGreatDoor

namespace Go.Proofs.YtpgnabmkfkcogaaGreatDoor
open Go.RowKit Go.Shelf

attribute [local go_sem] Oper.semAt_some

/-- what has come when k rounds are over -/
def upto {α : Type} (f : Nat → α) (k : Nat) : List α := (List.range k).map f
/-- what a round keeps: all below n0, and the box of the list -/
def KeepsB (n0 Bs : Nat) (A B : World) : Prop := Below n0 A B ∧ B.cell? ⟨Bs, 0, none⟩ = A.cell? ⟨Bs, 0, none⟩
theorem KeepsB.refl (n0 Bs : Nat) (A : World) : KeepsB n0 Bs A A := ⟨Below.refl _ _, rfl⟩
theorem KeepsB.trans {n0 Bs : Nat} {A B C : World} (h : KeepsB n0 Bs A B) (k : KeepsB n0 Bs B C) : KeepsB n0 Bs A C := ⟨h.1.trans k.1, k.2.trans h.2⟩

end Go.Proofs.YtpgnabmkfkcogaaGreatDoor

namespace Go.Proofs.YtpgnabmkfkcogaaGreatDoor
open Go.RowKit Go.Shelf

attribute [local go_sem] Oper.semAt_some

/-- the product of all of a list that are not 0, as elements -/
def prz (p : Nat) (l : List Int) : Nat := l.foldl (fun acc z => if z % (p : Int) = 0 then acc else acc * el p z % p) 1

theorem prz_snoc (p : Nat) (l : List Int) (z : Int) : prz p (l ++ [z]) = if z % (p : Int) = 0 then prz p l else prz p l * el p z % p := by simp [prz]

theorem el_pos {p : Nat} {z : Int} (h3 : 3 ≤ p) (h : z % (p : Int) ≠ 0) : 0 < el p z := by
  have := (emod_bounds z p h3).1; unfold el; omega

/-- the product of those ahead of a place -/
def pkI (p : Nat) (zs : List Int) (k : Nat) : Nat := prz p (zs.take k)

theorem pkI_succ (p : Nat) (zs : List Int) (k : Nat) (h : k < zs.length) : pkI p zs (k + 1) = if zat zs k % (p : Int) = 0 then pkI p zs k else pkI p zs k * el p (zat zs k) % p := by
  unfold pkI
  rw [List.take_succ_eq_append_getElem h, prz_snoc]; simp [h, zat]

theorem inv_one {p : Nat} (hp : Num.Prime p) (h3 : 3 ≤ p) {z : Int} (h : z % (p : Int) ≠ 0) : invn p z * el p z % p = 1 := by
  have h1 := el_pos h3 h
  have h2 := el_lt p z h3
  unfold invn
  have : el p z = Num.pwm p (el p z) 1 := (Num.pwm_one p _ h2).symm
  rw [show Num.pwm p (el p z) (p - 2) * el p z = Num.pwm p (el p z) (p - 2) * Num.pwm p (el p z) 1 from by rw [← this], Num.pwm_add, show p - 2 + 1 = p - 1 from by omega]
  exact Num.pwm_fermat hp h1 h2

theorem inv_zero {p : Nat} (h3 : 3 ≤ p) {z : Int} (h : z % (p : Int) = 0) : invn p z = 0 := by
  have he : el p z = 0 := by unfold el; rw [h]; rfl
  unfold invn; rw [he, pwm_zero_left p _ (by omega)]

/-- what makes 1 of an element is one alone -/
theorem inv_unique {p x y e : Nat} (hp : Num.Prime p) (hx : x < p) (hy : y < p) (he : ¬ p ∣ e) (h1 : x * e % p = 1) (h2 : y * e % p = 1) : x = y := by
  have : e * x % p = e * y % p := by rw [Nat.mul_comm, h1, Nat.mul_comm, h2]
  have := Num.cancel hp he this
  rwa [Nat.mod_eq_of_lt hx, Nat.mod_eq_of_lt hy] at this

/-- what is known of the new list and of the inverse while the last n - i are done -/
structure IG (p : Nat) (zs : List Int) (i : Nat) (o : Nat → Nat) (v : Nat) : Prop where
  ahead : ∀ j, j < i → o j = pkI p zs j
  behind : ∀ j, i ≤ j → j < zs.length → o j = invn p (zat zs j)
  one : v * pkI p zs i % p = 1

/-- one place turned -/
def updI (o : Nat → Nat) (i x : Nat) : Nat → Nat := fun j => if j = i then x else o j

theorem IG.skip {p : Nat} {zs : List Int} {i : Nat} {o : Nat → Nat} {v : Nat} (h3 : 3 ≤ p) (h : IG p zs (i + 1) o v) (hi : i < zs.length) (hz : zat zs i % (p : Int) = 0) : IG p zs i (updI o i 0) v := by
  have e := pkI_succ p zs i hi
  rw [if_pos hz] at e
  refine ⟨fun j hj => ?_, fun j h1 h2 => ?_, by rw [← e]; exact h.one⟩
  · unfold updI; rw [if_neg (by omega)]; exact h.ahead j (by omega)
  · unfold updI
    by_cases hji : j = i
    · rw [if_pos hji, hji]; exact (inv_zero h3 hz).symm
    · rw [if_neg hji]; exact h.behind j (by omega) h2

theorem IG.take {p : Nat} {zs : List Int} {i : Nat} {o : Nat → Nat} {v : Nat} (hp : Num.Prime p) (h3 : 3 ≤ p) (h : IG p zs (i + 1) o v) (hi : i < zs.length) (hz : zat zs i % (p : Int) ≠ 0) :
    IG p zs i (updI o i (o i * v % p)) (v * el p (zat zs i) % p) := by
  have e := pkI_succ p zs i hi
  rw [if_neg hz] at e
  have hone := h.one
  rw [e] at hone
  have hoi := h.ahead i (by omega)
  refine ⟨fun j hj => ?_, fun j h1 h2 => ?_, ?_⟩
  · unfold updI; rw [if_neg (by omega)]; exact h.ahead j (by omega)
  · unfold updI
    by_cases hji : j = i
    · rw [if_pos hji, hji]
      refine inv_unique hp (Nat.mod_lt _ (by omega)) (invn_lt p _ h3) (Num.not_dvd_lt (el_pos h3 hz) (el_lt p _ h3)) ?_ (inv_one hp h3 hz)
      rw [hoi, Nat.mod_mul_mod, show pkI p zs i * v * el p (zat zs i) = v * (pkI p zs i * el p (zat zs i)) from by grind, ← Nat.mul_mod_mod]
      exact hone
    · rw [if_neg hji]; exact h.behind j (by omega) h2
  · rw [Nat.mod_mul_mod, show v * el p (zat zs i) * pkI p zs i = v * (pkI p zs i * el p (zat zs i)) from by grind, ← Nat.mul_mod_mod]
    exact hone

end Go.Proofs.YtpgnabmkfkcogaaGreatDoor

namespace Go.Proofs.YtpgnabmkfkcogaaGreatDoor
open Go

section
variable {F : Fence} {n : Nat} {P : Program} {ops : Array Oper} {Q : Exit → Act → World → Prop} {md : Region.Mode} {S : World → Prop}

/-- no operation puts a call off -/
def NoDefer (ops : Array Oper) : Prop := ∀ (j : Nat) (o : Oper), ops[j]? = some o → ∀ c, o.op ≠ .defer c

def noDeferB (ops : Array Oper) : Bool := ops.all fun o => match o.op with | .defer _ => false | _ => true

theorem noDefer_of_B (h : noDeferB ops = true) : NoDefer ops := by
  intro j o ho c hc
  unfold noDeferB at h
  rw [Array.all_eq_true] at h
  obtain ⟨hj, rfl⟩ := Array.getElem?_eq_some_iff.1 ho
  have := h j hj
  rw [hc] at this
  cases this

def YieldsR (P : Program) (ops : Array Oper) (S : World → Prop) (o : Oper) (v : Value) (a : Act) : Prop := YieldsIf P ops S o v a ∧ ∀ w, o.about P w a.eval = none

theorem YieldsR.step {i : Nat} {o : Oper} {v : Value} {a : Act} (hnd : NoDefer ops) (hi : ops[i]? = some o) (hy : YieldsR P ops S o v a)
    {K : Act → World → Prop} {w : World} (hS : S w) (h : K (a.put o.dst v) w) : wpOpIn F n P ops Q i K a w := by
  unfold Go.wpOpIn
  simp only [hi]
  have hab : ∀ f, o.about P w a.eval = some f → F.fn f := fun f hf => by rw [hy.2 w] at hf; cases hf
  rcases hy.1 with ⟨hw, hv⟩ | ⟨hw, rfl⟩
  · simp only [hw, if_true, Oper.wpIn, Oper.semAt_eq _ _ _ (hnd i o hi), hv w hS, Oper.uponIn]; exact ⟨hab, h⟩
  · simp only [hw, Bool.false_eq_true, if_false]; exact ⟨hab, h⟩

theorem YieldsR.same {o : Oper} {v : Value} {a a' : Act} (hy : YieldsR P ops S o v a) (he : execOp a'.eval o = execOp a.eval o)
    (hw : Region.wanted o (yielded ops a'.tmps) = Region.wanted o (yielded ops a.tmps)) (hb : ∀ w, o.about P w a'.eval = o.about P w a.eval) : YieldsR P ops S o v a' :=
  ⟨hy.1.of_same he hw, fun w => by rw [hb w]; exact hy.2 w⟩

theorem wpOpIn_putR {j : Nat} {oi oj : Oper} {v : Value} (hnd : NoDefer ops) (hj : ops[j]? = some oj) (hap : oi.apart ops oj = true)
    (hsi : ∀ cs b, oi.op ≠ .select cs b) (hsj : ∀ cs b, oj.op ≠ .select cs b)
    (hQ : ∀ c a w, Q (.panic c) (a.put oi.dst v) w → Q (.panic c) a w) {K : Act → World → Prop} {a : Act} {w : World}
    (hy : YieldsR P ops S oi v a) (h : wpOpIn F n P ops Q j K (a.put oi.dst v) w) :
    wpOpIn F n P ops Q j (fun a' w' => YieldsR P ops S oi v a' ∧ K (a'.put oi.dst v) w') a w := by
  obtain ⟨h1, h2, h3⟩ := Oper.apart_spec hap
  have keep : ∀ (a : Act), YieldsR P ops S oi v a → ∀ u, YieldsR P ops S oi v (a.put oj.dst u) := fun a hy u =>
    hy.same (execOp_put oi hsi a oj.dst u h3) (wanted_put oi a oj.dst u h3) (fun w => about_put oi w a oj.dst u h3)
  have keepD : ∀ d, YieldsR P ops S oi v { a with defers := d :: a.defers } := fun d => hy.same rfl rfl (fun _ => rfl)
  have hjd := hnd j oj hj
  unfold wpOpIn at *
  simp only [hj] at *
  rw [wanted_put oj a oi.dst v h1, about_put oj w a oi.dst v h1] at h
  split
  · rename_i hw
    simp only [hw, if_true] at h
    unfold Oper.wpIn at *
    rw [about_put oj w a oi.dst v h1] at h
    refine ⟨h.1, ?_⟩
    have h := h.2
    rw [Oper.semAt_eq _ _ _ hjd, execOp_put oj hsj a oi.dst v h1] at h
    rw [Oper.semAt_eq _ _ _ hjd]
    generalize (execOp a.eval oj).run P w = r at *
    cases r with
    | ok x w' =>
      cases x <;> simp only [Oper.uponIn] at h ⊢
      case value u => exact ⟨keep a hy u, by rw [← Act.put_comm a v u h2]; exact h⟩
      case skip => exact ⟨keep a hy _, by rw [← Act.put_comm a v undef h2]; exact h⟩
      case defer d =>
        refine ⟨keep _ (keepD d) _, ?_⟩
        rw [← Act.put_comm _ v undef h2, ← Act.put_defers]
        exact h
      case enter f args =>
        refine ⟨h.1, CallsIn.mono h.2 fun e w'' he => ?_⟩
        cases e with
        | returned u => exact ⟨keep a hy u, by rw [← Act.put_comm a v u h2]; exact he⟩
        | panicked c => exact hQ _ _ _ he
        | outgrown => exact he
      case row row args => exact ⟨h.1, RowsIn.mono h.2 fun u w'' he => ⟨keep a hy u, by rw [← Act.put_comm a v u h2]; exact he⟩⟩
      case round l f tmps assign body =>
        refine ⟨h.1, RoundIn.mono h.2 fun e w'' he => ?_⟩
        cases e with
        | returned u => exact ⟨keep a hy u, by rw [← Act.put_comm a v u h2]; exact he⟩
        | panicked c => exact hQ _ _ _ he
        | outgrown => exact he
    | halt x w' =>
      cases x <;> simp only [Oper.uponIn] at h ⊢
      case panic u => exact hQ _ _ _ h
  · rename_i hw
    simp only [hw] at h
    exact ⟨h.1, keep a hy _, by rw [← Act.put_comm a v undef h2]; exact h.2⟩

/-- whatever order is picked, and S holds behind each operation -/
def wpAnyR (F : Fence) (n : Nat) (P : Program) (md : Region.Mode) (ops : Array Oper) (Q : Exit → Act → World → Prop) (S : World → Prop) : Nat → Array Bool → Act → World → Prop
  | 0, listed, a, w => Region.ready md ops listed = [] ∧ Q .normal a w
  | fuel + 1, listed, a, w =>
    (Region.ready md ops listed = [] → Q .normal a w) ∧
    ∀ i ∈ Region.ready md ops listed, wpOpIn F n P ops Q i (fun a' w' => S w' ∧ wpAnyR F n P md ops Q S fuel (listed.setIfInBounds i true) a' w') a w

theorem wpAnyIn_of_R : ∀ (fuel : Nat) (listed : Array Bool) (a : Act) (w : World), wpAnyR F n P md ops Q S fuel listed a w → wpAnyIn F n P md ops Q fuel listed a w
  | 0, _, _, _, h => h
  | fuel + 1, _, _, _, h => ⟨h.1, fun i hi => wpOpIn_mono (fun a' w' h' => wpAnyIn_of_R fuel _ a' w' h'.2) (h.2 i hi)⟩

theorem wpAnyR_first {i : Nat} {oi : Oper} {v : Value} (hnd : NoDefer ops) (hi : ops[i]? = some oi) (hsel : ∀ (j : Nat) (o : Oper) cs b, ops[j]? = some o → o.op ≠ .select cs b)
    (hQ : ∀ c a w, Q (.panic c) (a.put oi.dst v) w → Q (.panic c) a w) :
    ∀ (fuel : Nat) (listed : Array Bool) (a : Act) (w : World),
      (∀ j oj, ops[j]? = some oj → j ≠ i → listed.getD j true = false → (∀ e ∈ oj.after, Region.binds md e = true → e.on ≠ i) → oi.apart ops oj = true) →
      i ∈ Region.ready md ops listed → YieldsR P ops S oi v a → S w →
      wpAnyR F n P md ops Q S fuel (listed.setIfInBounds i true) (a.put oi.dst v) w → wpAnyR F n P md ops Q S (fuel + 1) listed a w := by
  intro fuel
  induction fuel with
  | zero =>
    intro listed a w _ hr hy hS H
    refine ⟨fun h => (by rw [h] at hr; cases hr), fun j hj => ?_⟩
    by_cases hji : j = i
    · subst hji; exact hy.step hnd hi hS ⟨hS, H⟩
    · have := ready_mono hj hji
      rw [H.1] at this
      cases this
  | succ fuel ih =>
    intro listed a w hfree hr hy hS H
    refine ⟨fun h => (by rw [h] at hr; cases hr), fun j hj => ?_⟩
    by_cases hji : j = i
    · subst hji; exact hy.step hnd hi hS ⟨hS, H⟩
    · have h1 := H.2 j (ready_mono hj hji)
      obtain ⟨hjun, oj, hoj, hall⟩ := mem_ready.1 hj
      have hnot : ∀ e ∈ oj.after, Region.binds md e = true → e.on ≠ i := fun e he hb heq => by
        have h1 := hall e he hb
        have h0 := (mem_ready.1 hr).1
        rw [heq] at h1
        rcases Nat.lt_or_ge i listed.size with h' | h'
        · simp [h'] at h0 h1; rw [h0] at h1; cases h1
        · simp [Array.getElem?_eq_none h'] at h1
      have h2 := wpOpIn_putR hnd hoj (hfree j oj hoj hji hjun hnot) (fun cs b => hsel i oi cs b hi) (fun cs b => hsel j oj cs b hoj) hQ hy h1
      have hfree' : ∀ k ok, ops[k]? = some ok → k ≠ i → (listed.setIfInBounds j true).getD k true = false →
          (∀ e ∈ ok.after, Region.binds md e = true → e.on ≠ i) → oi.apart ops ok = true := fun k ok hk hki hun hno => by
        refine hfree k ok hk hki ?_ hno
        by_cases hjk : j = k
        · subst hjk; exact hjun
        · rw [getD_set_ne true hjk] at hun; exact hun
      refine wpOpIn_mono (fun a' w' h3 => ⟨h3.2.1, ih (listed.setIfInBounds j true) a' w' hfree' (ready_mono hr (Ne.symm hji)) h3.1 h3.2.1 ?_⟩) h2
      rw [Array.setIfInBounds_comm _ _ hji]
      exact h3.2.2

theorem wpAnyR_take {i : Nat} {oi : Oper} {v : Value} {fuel : Nat} {listed : Array Bool} {a : Act} {w : World} (hnd : NoDefer ops) (hi : ops[i]? = some oi)
    (hs : Region.noSelect ops = true) (hf : Region.free md ops listed i = true) (hr : (Region.ready md ops listed).contains i = true)
    (hQ : ∀ c a w, Q (.panic c) (a.put oi.dst v) w → Q (.panic c) a w) (hy : YieldsR P ops S oi v a) (hS : S w)
    (h : wpAnyR F n P md ops Q S fuel (listed.setIfInBounds i true) (a.put oi.dst v) w) : wpAnyR F n P md ops Q S (fuel + 1) listed a w :=
  wpAnyR_first hnd hi (Region.noSelect_spec hs) hQ fuel listed a w (Region.free_spec hi hf) (by simpa using hr) hy hS h

/-- one alone may come up -/
theorem wpAnyR_one {i : Nat} {fuel : Nat} {listed : Array Bool} {a : Act} {w : World} (hr : Region.ready md ops listed = [i])
    (h : wpOpIn F n P ops Q i (fun a' w' => S w' ∧ wpAnyR F n P md ops Q S fuel (listed.setIfInBounds i true) a' w') a w) : wpAnyR F n P md ops Q S (fuel + 1) listed a w :=
  ⟨(fun h0 => by rw [hr] at h0; cases h0), fun j hj => by rw [hr] at hj; obtain rfl := List.mem_singleton.1 hj; exact h⟩

theorem wpAnyR_done {listed : Array Bool} {a : Act} {w : World} (hr : Region.ready md ops listed = []) (h : Q .normal a w) :
    ∀ fuel, wpAnyR F n P md ops Q S fuel listed a w
  | 0 => ⟨hr, h⟩
  | _ + 1 => ⟨fun _ => h, by rw [hr]; simp⟩

theorem wpIn_region_R {id : Nat} {a : Act} {w : World} (hm : P.follows .mixedOrders = true)
    (h : wpAnyR F n P .any ops Q S ops.size (Array.replicate ops.size false) a w.drew) : (Code.region id ops true).wpIn F n P Q a w :=
  wpIn_region_any hm (wpAnyIn_of_R _ _ _ _ h)

end
end Go.Proofs.YtpgnabmkfkcogaaGreatDoor
