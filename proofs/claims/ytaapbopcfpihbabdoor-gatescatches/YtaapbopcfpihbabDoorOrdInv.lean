/- A region that draws its order, by what every operation keeps: one proof an operation, whatever the order. Own laws. -/
import Derived.Test.YtaapbopcfpihbabDoorHeldS
import Derived.Below
namespace Go.Proofs.YtaapbopcfpihbabDoor
open Go

section
variable {P : Program} {ops : Array Oper} {Q : Exit → Act → World → Prop} {md : Region.Mode}

theorem count_unset {L : Array Bool} {i : Nat} (h : L.getD i true = false) : (L.setIfInBounds i true).toList.count false < L.toList.count false := by
  have hi : i < L.size := by
    rcases Nat.lt_or_ge i L.size with g | g
    · exact g
    · simp [Array.getElem?_eq_none g] at h
  have hv : L.toList[i]'(by simpa using hi) = false := by simpa [hi] using h
  rw [Array.toList_setIfInBounds]
  have hc := List.count_set (a := true) (b := false) (l := L.toList) (i := i) (by simpa using hi)
  rw [hv] at hc
  have hpos : 0 < L.toList.count false := List.count_pos_iff.2 (by rw [← hv]; exact List.getElem_mem _)
  simp only [show ((false : Bool) == false) = true from rfl, show ((true : Bool) == false) = false from rfl, if_true, Bool.false_eq_true, if_false] at hc
  omega

theorem wpAny_inv (Inv : Array Bool → Act → World → Prop)
    (hstep : ∀ L a w, Inv L a w → ∀ i ∈ Region.ready md ops L, wpOp P ops Q i (fun a' w' => Inv (L.setIfInBounds i true) a' w') a w)
    (hdone : ∀ L a w, Inv L a w → Region.ready md ops L = [] → Q .normal a w) :
    ∀ (fuel : Nat) (L : Array Bool) (a : Act) (w : World), L.toList.count false ≤ fuel → Inv L a w → wpAny P md ops Q fuel L a w := by
  intro fuel
  induction fuel with
  | zero =>
    intro L a w hc hI
    have hr : Region.ready md ops L = [] := by
      rcases hrr : Region.ready md ops L with _ | ⟨i, t⟩
      · rfl
      · have hi : i ∈ Region.ready md ops L := by rw [hrr]; simp
        have := count_unset (mem_ready.1 hi).1
        omega
    exact ⟨hr, hdone L a w hI hr⟩
  | succ fuel ih =>
    intro L a w hc hI
    refine ⟨fun h => hdone L a w hI h, fun i hi => wpOp_mono (fun a' w' h => ih _ _ _ ?_ h) (hstep L a w hI i hi)⟩
    have := count_unset (mem_ready.1 hi).1
    omega

/-- each waits for earlier ones alone -/
def lexB (md : Region.Mode) (ops : Array Oper) : Bool := (List.range ops.size).all fun k => match ops[k]? with | some o => o.after.all fun e => !(Region.binds md e) || decide (e.on < k) | none => true

theorem all_listed {L : Array Bool} (hl : lexB md ops = true) (hsz : L.size = ops.size) (hr : Region.ready md ops L = []) : ∀ k, k < ops.size → L.getD k false = true := by
  intro k
  induction k using Nat.strongRecOn with
  | _ k ih =>
    intro hk
    have ho : ops[k]? = some ops[k] := by simp [hk]
    rcases hx : L.getD k false with _ | _
    · exfalso
      have hk2 : k < L.size := by omega
      have hmem : k ∈ Region.ready md ops L := by
        refine mem_ready.2 ⟨by simp [hk2] at hx ⊢; exact hx, ops[k], ho, fun e he hb => ?_⟩
        have := List.all_eq_true.1 hl k (List.mem_range.2 hk)
        rw [ho] at this
        have := Array.all_eq_true'.1 this e he
        rw [hb] at this
        simp at this
        exact ih e.on this (by omega)
      rw [hr] at hmem
      cases hmem
    · rfl

theorem unlisted_of_ready {L : Array Bool} {i : Nat} (h : i ∈ Region.ready md ops L) : L.getD i false = false := by
  have h0 := (mem_ready.1 h).1
  rcases Nat.lt_or_ge i L.size with h' | h'
  · simp [h'] at h0 ⊢; exact h0
  · simp [Array.getElem?_eq_none h']
theorem lt_of_ready {L : Array Bool} {i : Nat} (h : i ∈ Region.ready md ops L) : i < ops.size := by
  obtain ⟨_, o, ho, _⟩ := mem_ready.1 h
  exact (Array.getElem?_eq_some_iff.1 ho).1
theorem edges_of_ready {L : Array Bool} {i : Nat} (h : i ∈ Region.ready md ops L) : ∀ o, ops[i]? = some o → ∀ e ∈ o.after, Region.binds md e = true → L.getD e.on false = true := fun o ho e he hb => by
  obtain ⟨_, o', ho', hall⟩ := mem_ready.1 h
  rw [ho'] at ho
  obtain rfl := Option.some.inj ho
  exact hall e he hb
/-- what one that may come up waits for has come up -/
theorem dep_of_ready {L : Array Bool} {i k : Nat} (hcl : Cl md ops L) (h : i ∈ Region.ready md ops L) (hd : depB md ops 4 i k = true) : L.getD k false = true := dep_listed hcl 4 i hd (edges_of_ready h)

theorem wpAny_invC (Inv : Array Bool → Act → World → Prop)
    (hstep : ∀ L a w, Cl md ops L → Inv L a w → ∀ i ∈ Region.ready md ops L, wpOp P ops Q i (fun a' w' => Inv (L.setIfInBounds i true) a' w') a w)
    (hdone : ∀ L a w, (∀ k, k < ops.size → L.getD k false = true) → Inv L a w → Q .normal a w) (hlex : lexB md ops = true) (a : Act) (w : World)
    (hI : Inv (Array.replicate ops.size false) a w) : wpAny P md ops Q ops.size (Array.replicate ops.size false) a w := by
  refine wpAny_inv (fun L a w => Cl md ops L ∧ L.size = ops.size ∧ Inv L a w) ?_ ?_ _ _ _ _ ?_ ⟨?_, by simp, hI⟩
  · intro L a w ⟨h1, h2, h4⟩ i hi
    exact wpOp_mono (fun a' w' h => ⟨h1.set (edges_of_ready hi), by simpa using h2, h⟩) (hstep L a w h1 h4 i hi)
  · intro L a w ⟨h1, h2, h4⟩ hr
    exact hdone L a w (all_listed hlex h2 hr) h4
  · simp
  · intro k o hk hl
    rcases Nat.lt_or_ge k ops.size with g | g
    · simp [g] at hl
    · simp [Array.getElem?_eq_none g] at hk

/-- places and what they hold: one more -/
def upd' (σ : Nat → Value) (i : Nat) (v : Value) : Nat → Value := fun k => if k = i then v else σ k

/-- each that has come up holds what is told of it -/
def Told (n : Nat) (F : World → Nat → Value → Prop) (L : Array Bool) (w : World) (σ : Nat → Value) : Prop := ∀ k, k < n → L.getD k false = true → F w k (σ k)

theorem Told.one {n : Nat} {F : World → Nat → Value → Prop} {L : Array Bool} {w w' : World} {σ : Nat → Value} (h : Told n F L w σ) {i : Nat} {v : Value} (hm : ∀ k u, F w k u → F w' k u) (hv : F w' i v) : Told n F (L.setIfInBounds i true) w' (upd' σ i v) := fun k hk hl => by
  unfold upd'
  by_cases e : k = i
  · rw [if_pos e, e]; exact hv
  · rw [if_neg e]
    refine hm _ _ (h k hk ?_)
    simp only [Array.getD_eq_getD_getElem?] at *
    rwa [Array.getElem?_setIfInBounds_ne (Ne.symm e)] at hl

/-- what a region keeps whose one store comes last -/
structure KeepS (n : Nat) (F : World → Nat → Value → Prop) (Fin : World → (Nat → Value) → Prop) (W0 : World) (gA : (Nat → Value) → Act) (L : Array Bool) (a : Act) (w : World) : Prop where
  below : RowKit.Below W0.heap.size W0 w
  told : ∃ σ, a = gA σ ∧ (L.getD n false = false → Told n F L w σ) ∧ (L.getD n false = true → Fin w σ)

theorem getD_set_other {L : Array Bool} {i k : Nat} (h : i ≠ k) : (L.setIfInBounds i true).getD k false = L.getD k false := by
  simp only [Array.getD_eq_getD_getElem?]
  rw [Array.getElem?_setIfInBounds_ne h]

theorem KeepS.next {n : Nat} {F : World → Nat → Value → Prop} {Fin : World → (Nat → Value) → Prop} {W0 : World} {gA : (Nat → Value) → Act} {L : Array Bool} {w w' : World} {σ : Nat → Value} {i : Nat} {v : Value} {a' : Act}
    (hb : RowKit.Below W0.heap.size W0 w') (hn : L.getD n false = false) (hi : i ≠ n) (ht : Told n F L w σ) (hm : ∀ k u, F w k u → F w' k u) (hv : F w' i v) (ha : a' = gA (upd' σ i v)) : KeepS n F Fin W0 gA (L.setIfInBounds i true) a' w' :=
  ⟨hb, upd' σ i v, ha, fun _ => ht.one hm hv, fun h => by rw [getD_set_other hi, hn] at h; cases h⟩
end
end Go.Proofs.YtaapbopcfpihbabDoor
