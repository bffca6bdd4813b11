/- Package gates: sideOf. A region that draws its order, by what every operation keeps: one proof an operation, whatever the order. Own laws. -/
import Derived.Test.YtpgnabmkfkcogaaGreatDoorGqAM
import Derived.Test.YtpgnabmkfkcogaaGreatDoorHeldS
import Derived.Below
namespace Go.Proofs.YtpgnabmkfkcogaaGreatDoor
open Go.RowKit

set_option maxRecDepth 100000 in
set_option maxHeartbeats 2000000 in
theorem sideOf_any (p b n c1 c2 : Nat) (y : Value) (a1 a2 : Option Addr) (t fs : List Int) (w : World) (hIT : InT p b w) (hn : n ≤ 6) (ht : t.length = 2 ^ n) (hk : fs.length ≤ n) (ft : Fits t) (ff : Fits fs) (lt : Lst w.heap.size w a1 c1 t) (lf : RowB w.heap.size w a2 fs) :
    Calls Tryz.prog 247 #[.agg #[.pointer (some ⟨b, 0, none⟩), y, .int .i64 (n : Int)], .slice a1 t.length c1, .slice a2 fs.length c2] w fun e w' => ∃ a' c', e = .returned (.agg #[.slice a2 fs.length c2, .int .i64 ((n - fs.length : Nat) : Int), .slice a' (fxs p t (zat fs) fs.length).length c']) ∧ Lst w'.heap.size w' a' c' (fxs p t (zat fs) fs.length) ∧ (a' = a1 ∨ ∃ g, a' = some ⟨g, 0, none⟩ ∧ w.heap.size ≤ g) ∧ Below w.heap.size w w' := by
  have hmx : Tryz.prog.follows .mixedOrders = true := by kernel_rfl
  obtain ⟨W0, hW0⟩ : ∃ W0, W0 = w.alloc (.cells #[.pointer (some ⟨b, 0, none⟩), y, .int .i64 (n : Int)] 149) := ⟨_, rfl⟩
  obtain ⟨hb0, hs0, hz0⟩ := own_blk hW0
  obtain ⟨W1, hW1⟩ : ∃ W1, W1 = W0.alloc (.cells #[.slice none 0 0, .int .i64 0, .slice none 0 0] 295) := ⟨_, rfl⟩
  obtain ⟨hb1, hs1, hz1⟩ := own_blk hW1
  obtain ⟨G, hG⟩ : ∃ G, G = w.heap.size := ⟨_, rfl⟩
  obtain ⟨R, hR⟩ : ∃ R, R = W0.heap.size := ⟨_, rfl⟩
  rw [← hG] at hs0
  rw [← hR] at hs1
  have hGR : R = w.heap.size + 1 := by omega
  have hs0' := (hb1.block G (by omega)).trans hs0
  have hB1 : Below w.heap.size w W1 := hb0.trans (hb1.mono hb0.size)
  have HB1 := hid hB1
  have HSB : Hid (∀ W, Below W1.heap.size W1 W → W.cell? ⟨G, 0, none⟩ = some (.pointer (some ⟨b, 0, none⟩)) ∧ W.cell? ⟨G, 2, none⟩ = some (.int .i64 (n : Int))) := fun W hW => by
    have e1 := (hW.block G (by omega)).trans hs0'
    exact ⟨by simp [World.cell?, e1], by simp [World.cell?, e1]⟩
  have HRB : Hid (∀ W, Below W1.heap.size W1 W → W.heap[R]? = some (.cells #[.slice none 0 0, .int .i64 0, .slice none 0 0] 295 (0, 0))) := fun W hW => (hW.block R (by omega)).trans hs1
  have HFX : Hid (∀ W, Below W1.heap.size W1 W → Calls Tryz.prog 161 #[.pointer (some ⟨b, 0, none⟩), .slice a1 t.length c1, .slice a2 fs.length c2] W fun e w' => ∃ a' c', e = .returned (.slice a' (fxs p t (zat fs) fs.length).length c') ∧ Lst w'.heap.size w' a' c' (fxs p t (zat fs) fs.length) ∧ (a' = a1 ∨ ∃ g, a' = some ⟨g, 0, none⟩ ∧ W.heap.size ≤ g) ∧ Below W.heap.size W w') := fun W hW => by
    have hw := hB1.trans (hW.mono hB1.size)
    exact gfixed_any p b n c1 c2 a1 a2 t fs W (hIT.below hw) hn ht hk ft ff ((lt.below hw).mono hw.size) ((lf.below hw).mono hw.size)
  have h0 : 0 < t.length := by rw [ht]; exact Nat.two_pow_pos n
  have HEN : Hid (∀ (W : World) (a' : Option Addr) (c' : Nat) (cs : Array Value), Below W1.heap.size W1 W → Lst W.heap.size W a' c' (fxs p t (zat fs) fs.length) → (a' = a1 ∨ ∃ g, a' = some ⟨g, 0, none⟩ ∧ W1.drew.heap.size ≤ g) → Lst (W.setRow R cs).heap.size (W.setRow R cs) a' c' (fxs p t (zat fs) fs.length) ∧ (a' = a1 ∨ ∃ g, a' = some ⟨g, 0, none⟩ ∧ w.heap.size ≤ g) ∧ Below w.heap.size w (W.setRow R cs)) := fun W a' c' cs hW hl hor => by
    have hbw : Below w.heap.size w W := hB1.trans (hW.mono hB1.size)
    have hbs := below_setRow hbw (show w.heap.size ≤ R by omega) cs
    refine ⟨⟨fun q hq => ?_, hl.room, hl.nil⟩, hor.imp id (fun ⟨g, h, hg⟩ => ⟨g, h, Nat.le_trans hB1.size hg⟩), hbs⟩
    obtain ⟨b', o', e1, e2, e4⟩ := hl.row q hq
    have hne : b' ≠ R := by
      rcases hor with h | ⟨g, h, hg⟩
      · obtain ⟨b2, o2, e5, e6, _⟩ := lt.row 0 h0
        rw [h, e5] at e1
        injection e1 with e1
        injection e1 with e7 _ _
        omega
      · rw [h] at e1
        injection e1 with e1
        injection e1 with e7 _ _
        have : W1.drew.heap.size = W1.heap.size := rfl
        omega
    refine ⟨b', o', e1, by simpa [World.setRow] using e2, ?_⟩
    exact (World.cell?_of_block (w := W) (a := ⟨b', o' + q, none⟩) (setRow_other W R b' cs hne)).trans e4
  have HSR : Hid (∀ (W : World) (cs : Array Value), (W.cell? ⟨G, 0, none⟩ = some (.pointer (some ⟨b, 0, none⟩)) ∧ W.cell? ⟨G, 2, none⟩ = some (.int .i64 (n : Int))) → (W.setRow R cs).cell? ⟨G, 0, none⟩ = some (.pointer (some ⟨b, 0, none⟩)) ∧ (W.setRow R cs).cell? ⟨G, 2, none⟩ = some (.int .i64 (n : Int))) := fun W cs h => by
    have e := setRow_other W R G cs (by omega)
    exact ⟨(World.cell?_of_block (w := W) (a := ⟨G, 0, none⟩) e).trans h.1, (World.cell?_of_block (w := W) (a := ⟨G, 2, none⟩) e).trans h.2⟩
  have HBD : Hid (Below W1.heap.size W1 W1.drew) := (Below.refl _ _).drew
  obtain ⟨m, hmm⟩ : ∃ m, m = n - fs.length := ⟨_, rfl⟩
  have hnk : (n : Int) - (fs.length : Int) = (m : Int) := by omega
  have hms : IntKind.i64.wrap (m : Int) = (m : Int) := by rw [IntKind.wrap_i64]; omega
  rw [← hmm]
  generalize fxs p t (zat fs) fs.length = Y at *
  generalize Y.length = M at *
  generalize t.length = N at *
  generalize fs.length = k at *
  have HWG : Hid (W1 = (w.alloc (.cells #[.pointer (some ⟨b, 0, none⟩), y, .int .i64 (n : Int)] 149)).alloc (.cells #[.slice none 0 0, .int .i64 0, .slice none 0 0] 295)) := by unfold Hid; rw [hW1, hW0]
  have HG := hid hG
  have HR := hid hGR
  clear hIT ht ft ff lt lf hb0 hb1 hs0 hs1 hz0 hz1 hW0 hW1 hG hR hGR hs0' hB1 hmm hk h0
  go_enter Tryz.func247, Tryz.ntmps247
  go_wp2_with fail
  rw [← HWG.out, ← HR.out, ← HG.out]
  clear HWG
  refine wp_region_held_drew (S := fun W => W.cell? ⟨G, 0, none⟩ = some (.pointer (some ⟨b, 0, none⟩)) ∧ W.cell? ⟨G, 2, none⟩ = some (.int .i64 (n : Int))) (by kernel_rfl) (HSB.out _ HBD.out) (fun hHeld => ?_)
  refine wpAnyH_takeU (i := 0) (v := .slice a2 k c2) rfl (by kernel_rfl) (by kernel_rfl) (by kernel_rfl) (fun _ _ _ h => h) (by rfl) (fun W hC => by go_simp) hHeld ?_
  simp only [Act.put, List.setIfInBounds_toArray, List.set_cons_zero, List.set_cons_succ]
  refine wpAnyH_takeU (i := 1) (v := .pointer (some ⟨G, 2, none⟩)) rfl (by kernel_rfl) (by kernel_rfl) (by kernel_rfl) (fun _ _ _ h => h) (by rfl) (fun W hC => by go_simp) hHeld ?_
  simp only [Act.put, List.setIfInBounds_toArray, List.set_cons_zero, List.set_cons_succ]
  refine wpAnyH_takeU (i := 2) (v := .int .i64 (n : Int)) rfl (by kernel_rfl) (by kernel_rfl) (by kernel_rfl) (fun _ _ _ h => h) (by rfl) (fun W hC => by (obtain ⟨x1, x2⟩ := hC); go_simp) hHeld ?_
  simp only [Act.put, List.setIfInBounds_toArray, List.set_cons_zero, List.set_cons_succ]
  refine wpAnyH_takeU (i := 3) (v := .slice a2 k c2) rfl (by kernel_rfl) (by kernel_rfl) (by kernel_rfl) (fun _ _ _ h => h) (by rfl) (fun W hC => by go_simp) hHeld ?_
  simp only [Act.put, List.setIfInBounds_toArray, List.set_cons_zero, List.set_cons_succ]
  refine wpAnyH_takeU (i := 4) (v := .int .i64 (k : Int)) rfl (by kernel_rfl) (by kernel_rfl) (by kernel_rfl) (fun _ _ _ h => h) (by rfl) (fun W hC => by go_simp) hHeld ?_
  simp only [Act.put, List.setIfInBounds_toArray, List.set_cons_zero, List.set_cons_succ]
  refine wpAnyH_takeU (i := 5) (v := .int .i64 (m : Int)) rfl (by kernel_rfl) (by kernel_rfl) (by kernel_rfl) (fun _ _ _ h => h) (by rfl) (fun W hC => by go_simp) hHeld ?_
  simp only [Act.put, List.setIfInBounds_toArray, List.set_cons_zero, List.set_cons_succ]
  refine wpAnyH_takeU (i := 6) (v := .pointer (some ⟨G, 0, none⟩)) rfl (by kernel_rfl) (by kernel_rfl) (by kernel_rfl) (fun _ _ _ h => h) (by rfl) (fun W hC => by go_simp) hHeld ?_
  simp only [Act.put, List.setIfInBounds_toArray, List.set_cons_zero, List.set_cons_succ]
  refine wpAnyH_takeU (i := 7) (v := .pointer (some ⟨b, 0, none⟩)) rfl (by kernel_rfl) (by kernel_rfl) (by kernel_rfl) (fun _ _ _ h => h) (by rfl) (fun W hC => by (obtain ⟨x1, x2⟩ := hC); go_simp) hHeld ?_
  simp only [Act.put, List.setIfInBounds_toArray, List.set_cons_zero, List.set_cons_succ]
  refine wpAnyH_takeU (i := 8) (v := .slice a1 N c1) rfl (by kernel_rfl) (by kernel_rfl) (by kernel_rfl) (fun _ _ _ h => h) (by rfl) (fun W hC => by go_simp) hHeld ?_
  simp only [Act.put, List.setIfInBounds_toArray, List.set_cons_zero, List.set_cons_succ]
  refine wpAnyH_takeU (i := 9) (v := .slice a2 k c2) rfl (by kernel_rfl) (by kernel_rfl) (by kernel_rfl) (fun _ _ _ h => h) (by rfl) (fun W hC => by go_simp) hHeld ?_
  simp only [Act.put, List.setIfInBounds_toArray, List.set_cons_zero, List.set_cons_succ]
  refine wpAnyH_ready (rs := [10]) (by kernel_rfl) (by simp) ?_
  refine AllReadyH.consU rfl (fun K' hK' => ?_) AllReadyH.nil
  go_simp
  refine (HFX.out _ HBD.out).mono ?_
  rintro e w3 ⟨a', c', rfl, hl3, ho3, hb3⟩
  have hB3 := HBD.out.trans hb3
  have hS3 := HSB.out w3 hB3
  have HRR := hid (HRB.out w3 hB3)
  have HE3 := hid (fun cs => HEN.out w3 a' c' cs hB3 hl3 ho3)
  have HS4 := hid (fun cs => HSR.out w3 cs hS3)
  clear hl3 hb3 ho3
  refine hK'.out _ _ (hS3) (fun hHeld => ?_)
  clear hK' K'
  refine wpAnyH_takeU (i := 11) (v := .agg #[.slice a2 k c2, .int .i64 (m : Int), .slice a' M c']) rfl (by kernel_rfl) (by kernel_rfl) (by kernel_rfl) (fun _ _ _ h => h) (by rfl) (fun W hC => by go_simp) hHeld ?_
  simp only [Act.put, List.setIfInBounds_toArray, List.set_cons_zero, List.set_cons_succ]
  refine wpAnyH_ready (rs := [12]) (by kernel_rfl) (by simp) ?_
  refine AllReadyH.consU rfl (fun K' hK' => ?_) AllReadyH.nil
  rw [if_pos (by rfl)]
  refine wp_store_row 295 _ _ rfl R #[.slice a2 k c2, .int .i64 (m : Int), .slice a' M c'] rfl rfl _ _ HRR.out (by kernel_rfl) rfl (by simp [Value.oneCell']) ?_
  refine hK'.out _ _ (HS4.out _) (fun hHeld => ?_)
  clear hK' K'
  refine wpAnyH_done (by kernel_rfl) ?_ _
  go_wp2_with fail
  refine bodyPost_ret (results_cell_row rfl _ _ R 295 #[.slice a2 k c2, .int .i64 (m : Int), .slice a' M c'] (0, 0) _ rfl (setRow_heap _ _ _ _ _ _ HRR.out) Tryz.underlying295 rfl (by kernel_rfl)) rfl ?_
  exact ⟨a', c', rfl, HE3.out _⟩

end Go.Proofs.YtpgnabmkfkcogaaGreatDoor

namespace Go.Proofs.YtpgnabmkfkcogaaGreatDoor
open Go

section
variable {P : Program} {ops : Array Oper} {Q : Exit → Act → World → Prop} {md : Region.Mode}

theorem count_unset {L : Array Bool} {i : Nat} (h : L.getD i true = false) : (L.setIfInBounds i true).toList.count false < L.toList.count false := by
  have hi : i < L.size := by
    rcases Nat.lt_or_ge i L.size with g | g
    · exact g
    · simp [Array.getElem?_eq_none g] at h
  have hv : L.toList[i]'(by simpa using hi) = false := by simpa [hi] using h
  rw [Array.toList_setIfInBounds]
  have hc := List.count_set (a := true) (b := false) (l := L.toList) (i := i) (by simpa using hi)
  rw [hv] at hc
  have hpos : 0 < L.toList.count false := List.count_pos_iff.2 (by rw [← hv]; exact List.getElem_mem _)
  simp only [show ((false : Bool) == false) = true from rfl, show ((true : Bool) == false) = false from rfl, if_true, Bool.false_eq_true, if_false] at hc
  omega

theorem wpAny_inv (Inv : Array Bool → Act → World → Prop)
    (hstep : ∀ L a w, Inv L a w → ∀ i ∈ Region.ready md ops L, wpOp P ops Q i (fun a' w' => Inv (L.setIfInBounds i true) a' w') a w)
    (hdone : ∀ L a w, Inv L a w → Region.ready md ops L = [] → Q .normal a w) :
    ∀ (fuel : Nat) (L : Array Bool) (a : Act) (w : World), L.toList.count false ≤ fuel → Inv L a w → wpAny P md ops Q fuel L a w := by
  intro fuel
  induction fuel with
  | zero =>
    intro L a w hc hI
    have hr : Region.ready md ops L = [] := by
      rcases hrr : Region.ready md ops L with _ | ⟨i, t⟩
      · rfl
      · have hi : i ∈ Region.ready md ops L := by rw [hrr]; simp
        have := count_unset (mem_ready.1 hi).1
        omega
    exact ⟨hr, hdone L a w hI hr⟩
  | succ fuel ih =>
    intro L a w hc hI
    refine ⟨fun h => hdone L a w hI h, fun i hi => wpOp_mono (fun a' w' h => ih _ _ _ ?_ h) (hstep L a w hI i hi)⟩
    have := count_unset (mem_ready.1 hi).1
    omega

/-- each waits for earlier ones alone -/
def lexB (md : Region.Mode) (ops : Array Oper) : Bool := (List.range ops.size).all fun k => match ops[k]? with | some o => o.after.all fun e => !(Region.binds md e) || decide (e.on < k) | none => true

theorem all_listed {L : Array Bool} (hl : lexB md ops = true) (hsz : L.size = ops.size) (hr : Region.ready md ops L = []) : ∀ k, k < ops.size → L.getD k false = true := by
  intro k
  induction k using Nat.strongRecOn with
  | _ k ih =>
    intro hk
    have ho : ops[k]? = some ops[k] := by simp [hk]
    rcases hx : L.getD k false with _ | _
    · exfalso
      have hk2 : k < L.size := by omega
      have hmem : k ∈ Region.ready md ops L := by
        refine mem_ready.2 ⟨by simp [hk2] at hx ⊢; exact hx, ops[k], ho, fun e he hb => ?_⟩
        have := List.all_eq_true.1 hl k (List.mem_range.2 hk)
        rw [ho] at this
        have := Array.all_eq_true'.1 this e he
        rw [hb] at this
        simp at this
        exact ih e.on this (by omega)
      rw [hr] at hmem
      cases hmem
    · rfl

theorem unlisted_of_ready {L : Array Bool} {i : Nat} (h : i ∈ Region.ready md ops L) : L.getD i false = false := by
  have h0 := (mem_ready.1 h).1
  rcases Nat.lt_or_ge i L.size with h' | h'
  · simp [h'] at h0 ⊢; exact h0
  · simp [Array.getElem?_eq_none h']
theorem lt_of_ready {L : Array Bool} {i : Nat} (h : i ∈ Region.ready md ops L) : i < ops.size := by
  obtain ⟨_, o, ho, _⟩ := mem_ready.1 h
  exact (Array.getElem?_eq_some_iff.1 ho).1
theorem edges_of_ready {L : Array Bool} {i : Nat} (h : i ∈ Region.ready md ops L) : ∀ o, ops[i]? = some o → ∀ e ∈ o.after, Region.binds md e = true → L.getD e.on false = true := fun o ho e he hb => by
  obtain ⟨_, o', ho', hall⟩ := mem_ready.1 h
  rw [ho'] at ho
  obtain rfl := Option.some.inj ho
  exact hall e he hb
/-- what one that may come up waits for has come up -/
theorem dep_of_ready {L : Array Bool} {i k : Nat} (hcl : Cl md ops L) (h : i ∈ Region.ready md ops L) (hd : depB md ops 4 i k = true) : L.getD k false = true := dep_listed hcl 4 i hd (edges_of_ready h)

theorem wpAny_invC (Inv : Array Bool → Act → World → Prop)
    (hstep : ∀ L a w, Cl md ops L → Inv L a w → ∀ i ∈ Region.ready md ops L, wpOp P ops Q i (fun a' w' => Inv (L.setIfInBounds i true) a' w') a w)
    (hdone : ∀ L a w, (∀ k, k < ops.size → L.getD k false = true) → Inv L a w → Q .normal a w) (hlex : lexB md ops = true) (a : Act) (w : World)
    (hI : Inv (Array.replicate ops.size false) a w) : wpAny P md ops Q ops.size (Array.replicate ops.size false) a w := by
  refine wpAny_inv (fun L a w => Cl md ops L ∧ L.size = ops.size ∧ Inv L a w) ?_ ?_ _ _ _ _ ?_ ⟨?_, by simp, hI⟩
  · intro L a w ⟨h1, h2, h4⟩ i hi
    exact wpOp_mono (fun a' w' h => ⟨h1.set (edges_of_ready hi), by simpa using h2, h⟩) (hstep L a w h1 h4 i hi)
  · intro L a w ⟨h1, h2, h4⟩ hr
    exact hdone L a w (all_listed hlex h2 hr) h4
  · simp
  · intro k o hk hl
    rcases Nat.lt_or_ge k ops.size with g | g
    · simp [g] at hl
    · simp [Array.getElem?_eq_none g] at hk

/-- places and what they hold: one more -/
def upd' (σ : Nat → Value) (i : Nat) (v : Value) : Nat → Value := fun k => if k = i then v else σ k

/-- each that has come up holds what is told of it -/
def Told (n : Nat) (F : World → Nat → Value → Prop) (L : Array Bool) (w : World) (σ : Nat → Value) : Prop := ∀ k, k < n → L.getD k false = true → F w k (σ k)

theorem Told.one {n : Nat} {F : World → Nat → Value → Prop} {L : Array Bool} {w w' : World} {σ : Nat → Value} (h : Told n F L w σ) {i : Nat} {v : Value} (hm : ∀ k u, F w k u → F w' k u) (hv : F w' i v) : Told n F (L.setIfInBounds i true) w' (upd' σ i v) := fun k hk hl => by
  unfold upd'
  by_cases e : k = i
  · rw [if_pos e, e]; exact hv
  · rw [if_neg e]
    refine hm _ _ (h k hk ?_)
    simp only [Array.getD_eq_getD_getElem?] at *
    rwa [Array.getElem?_setIfInBounds_ne (Ne.symm e)] at hl

/-- what a region keeps whose one store comes last -/
structure KeepS (n : Nat) (F : World → Nat → Value → Prop) (Fin : World → (Nat → Value) → Prop) (W0 : World) (gA : (Nat → Value) → Act) (L : Array Bool) (a : Act) (w : World) : Prop where
  below : RowKit.Below W0.heap.size W0 w
  told : ∃ σ, a = gA σ ∧ (L.getD n false = false → Told n F L w σ) ∧ (L.getD n false = true → Fin w σ)

theorem getD_set_other {L : Array Bool} {i k : Nat} (h : i ≠ k) : (L.setIfInBounds i true).getD k false = L.getD k false := by
  simp only [Array.getD_eq_getD_getElem?]
  rw [Array.getElem?_setIfInBounds_ne h]

theorem KeepS.next {n : Nat} {F : World → Nat → Value → Prop} {Fin : World → (Nat → Value) → Prop} {W0 : World} {gA : (Nat → Value) → Act} {L : Array Bool} {w w' : World} {σ : Nat → Value} {i : Nat} {v : Value} {a' : Act}
    (hb : RowKit.Below W0.heap.size W0 w') (hn : L.getD n false = false) (hi : i ≠ n) (ht : Told n F L w σ) (hm : ∀ k u, F w k u → F w' k u) (hv : F w' i v) (ha : a' = gA (upd' σ i v)) : KeepS n F Fin W0 gA (L.setIfInBounds i true) a' w' :=
  ⟨hb, upd' σ i v, ha, fun _ => ht.one hm hv, fun h => by rw [getD_set_other hi, hn] at h; cases h⟩
end
end Go.Proofs.YtpgnabmkfkcogaaGreatDoor
