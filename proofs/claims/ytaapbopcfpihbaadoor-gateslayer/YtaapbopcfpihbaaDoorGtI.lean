/- Package gates: Values. -/
import Derived.Test.YtaapbopcfpihbaaDoorGtH
namespace Go.Proofs.YtaapbopcfpihbaaDoor
open Go.RowKit

/-- what is wrong with a circuit and its inputs -/
noncomputable def vle (wide : Int) (lys : List (List GatZ)) (m : Nat) : Int := if flt wide lys = 0 then (if m = 2 ^ wide.toNat then 0 else 2) else flt wide lys
/-- what all gates are; nothing, where something is wrong -/
noncomputable def gvr (p : Nat) (wide : Int) (lys : List (List GatZ)) (inputs : List Int) : List (List Int) := if vle wide lys inputs.length = 0 then gva p lys inputs (lys.length + 1) else []
theorem vle_zero {wide : Int} {lys : List (List GatZ)} {m : Nat} (h : vle wide lys m = 0) : SzC wide lys ∧ GtC wide lys ∧ m = 2 ^ wide.toNat := by
  unfold vle at h
  by_cases h1 : flt wide lys = 0
  · rw [if_pos h1] at h
    by_cases h2 : m = 2 ^ wide.toNat
    · exact ⟨(flt_zero h1).1, (flt_zero h1).2, h2⟩
    · rw [if_neg h2] at h; omega
  · rw [if_neg h1] at h; exact absurd h h1

set_option maxRecDepth 100000 in
set_option maxHeartbeats 1000000 in
theorem gatesValues_any (p b cL ci : Nat) (wide : Int) (aL ai : Option Addr) (lys : List (List GatZ)) (inputs : List Int) (w : World) (hIT : InT p b w) (hB : CirB lys) (hl : LstGG w.heap.size w aL cL lys) (hi : Lst w.heap.size w ai ci inputs) (hf : Fits inputs) :
    Calls Tryd.prog 7 #[.pointer (some ⟨b, 0, none⟩), .agg #[.int .i64 wide, .slice aL lys.length cL], .slice ai inputs.length ci] w fun e w' => ∃ v, e = .returned (.tuple #[v, errz (vle wide lys inputs.length)]) ∧ OwnR w.heap.size w' v (gvr p wide lys inputs) ∧ Below w.heap.size w w' := by
  obtain ⟨W0, hW0⟩ : ∃ W0, W0 = w.alloc (.cells #[.int .i64 wide, .slice aL lys.length cL] 24) := ⟨_, rfl⟩
  obtain ⟨hb0, hs0, hz0⟩ := own_blk hW0
  obtain ⟨G, hG⟩ : ∃ G, G = w.heap.size := ⟨_, rfl⟩
  rw [← hG] at hs0
  have HC : Hid (∀ W, Below W0.heap.size W0 W → W.cell? ⟨G, 0, none⟩ = some (.int .i64 wide) ∧ W.cell? ⟨G, 1, none⟩ = some (.slice aL lys.length cL)) := fun W hW => by
    have e1 := (hW.block G (Array.getElem?_eq_some_iff.1 hs0).1).trans hs0
    exact ⟨by simp [World.cell?, e1], by simp [World.cell?, e1]⟩
  have HFO := hid (faultOf_any wide cL aL lys W0 hB (hl.step hb0))
  have HB0 := hid hb0
  have HWG := hid hW0
  have HG := hid hG
  obtain ⟨c0, c1⟩ := HC.out W0 (Below.refl _ _)
  by_cases hF : flt wide lys = 0
  · rw [hF] at HFO
    have hv6 : wide.toNat ≤ 6 := by have := (flt_zero hF).1.1; omega
    obtain ⟨v, hv⟩ : ∃ v : Nat, wide = (v : Int) := ⟨wide.toNat, by have := (flt_zero hF).1.1; omega⟩
    have hsh := shl_pow (v := v) (by omega)
    have hvt : wide.toNat = v := by omega
    have HFZ := hid (flt_zero hF)
    by_cases hM : inputs.length = 2 ^ wide.toNat
    · have HV0 : Hid (vle wide lys inputs.length = 0) := by unfold Hid vle; rw [if_pos hF, if_pos hM]
      have HR : Hid (gvr p wide lys inputs = gva p lys inputs (lys.length + 1)) := by unfold Hid gvr; rw [if_pos HV0.out]
      rw [HV0.out, HR.out]
      have HVO : Hid (∀ W, Below W0.heap.size W0 W → Calls Tryd.prog 23 #[.pointer (some ⟨b, 0, none⟩), .agg #[.int .i64 wide, .slice aL lys.length cL], .slice ai inputs.length ci] W fun e w' => ∃ v, e = .returned v ∧ OwnR W.heap.size w' v (gva p lys inputs (lys.length + 1)) ∧ Below W.heap.size W w') := fun W hW => by
        have hw := hb0.trans (hW.mono hb0.size)
        exact valuesOf_any p b cL ci wide aL ai lys inputs W (hIT.below hw) HFZ.out.1 HFZ.out.2 hM (hl.step hw) ((hi.below hw).mono hw.size) hf
      rw [hvt] at hM
      have hm2 : ((inputs.length : Int) != wrap64 (2 ^ min v 64)) = false := by rw [hsh, hM]; simp
      subst hv
      generalize gva p lys inputs (lys.length + 1) = Y at *
      generalize lys.length = n at *
      generalize inputs.length = m at *
      clear HFZ HV0 HR hF hIT hB hl hi hf hW0 hs0 hz0 hb0 hG hM hsh hvt hv6
      go_enter Tryd.func7, Tryd.ntmps7
      go_wp2_with fail
      rw [← HG.out, ← HWG.out]
      clear HWG
      refine HFO.out.mono ?_
      rintro e w1 ⟨rfl, hb1⟩
      rw [errz_nil]
      have HVX := hid (HVO.out w1 hb1)
      obtain ⟨d0, d1⟩ := HC.out w1 hb1
      have HB1 : Hid (Below w.heap.size w w1) := HB0.out.trans (hb1.mono HB0.out.size)
      clear hb1 c0 c1
      go_wp2_with fail
      refine HVX.out.mono ?_
      rintro e w2 ⟨v2, rfl, ho, hb2⟩
      have HE : Hid (OwnR w.heap.size w2 v2 Y ∧ Below w.heap.size w w2) := ⟨ho.mono HB1.out.size, HB1.out.trans (hb2.mono HB1.out.size)⟩
      clear ho hb2
      go_wp2_with fail
      go_ret2
      exact ⟨v2, rfl, HE.out⟩
    · have HV0 : Hid (vle wide lys inputs.length = 2) := by unfold Hid vle; rw [if_pos hF, if_neg hM]
      have HR : Hid (gvr p wide lys inputs = []) := by unfold Hid gvr; rw [HV0.out]; rfl
      rw [HV0.out, HR.out]
      rw [hvt] at hM
      have hm2 : ((inputs.length : Int) != wrap64 (2 ^ min v 64)) = true := by rw [hsh, bne_iff_ne]; omega
      subst hv
      generalize lys.length = n at *
      generalize inputs.length = m at *
      clear HFZ HV0 HR hF hIT hB hl hi hf hW0 hs0 hz0 hb0 hG hM hsh hvt hv6
      go_enter Tryd.func7, Tryd.ntmps7
      go_wp2_with fail
      rw [← HG.out, ← HWG.out]
      clear HWG
      refine HFO.out.mono ?_
      rintro e w1 ⟨rfl, hb1⟩
      rw [errz_nil]
      obtain ⟨d0, d1⟩ := HC.out w1 hb1
      have HB1 : Hid (Below w.heap.size w w1) := HB0.out.trans (hb1.mono HB0.out.size)
      clear hb1 c0 c1
      go_wp2_with fail
      go_ret2
      exact ⟨_, rfl, OwnR.nil _ _, HB1.out⟩
  · have HV0 : Hid (vle wide lys inputs.length = flt wide lys) := by unfold Hid vle; rw [if_neg hF]
    have HR : Hid (gvr p wide lys inputs = []) := by unfold Hid gvr; rw [HV0.out, if_neg hF]
    rw [HV0.out, HR.out]
    rw [errz_some hF] at HFO ⊢
    generalize flt wide lys = V at *
    generalize lys.length = n at *
    generalize inputs.length = m at *
    clear HV0 HR hF hIT hB hl hi hf hW0 hs0 hz0 hb0 hG
    go_enter Tryd.func7, Tryd.ntmps7
    go_wp2_with fail
    rw [← HG.out, ← HWG.out]
    clear HWG
    refine HFO.out.mono ?_
    rintro e w1 ⟨rfl, hb1⟩
    have HB1 : Hid (Below w.heap.size w w1) := HB0.out.trans (hb1.mono HB0.out.size)
    clear hb1 c0 c1
    go_wp2_with fail
    go_ret2
    exact ⟨_, rfl, OwnR.nil _ _, HB1.out⟩

end Go.Proofs.YtaapbopcfpihbaaDoor
