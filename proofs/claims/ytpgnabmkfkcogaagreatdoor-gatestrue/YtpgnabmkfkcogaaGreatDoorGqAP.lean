/- Package gates: Values. Package gates: Part. Package gates: Part of anything; Values of a circuit of one gate. -/
import Derived.Test.YtpgnabmkfkcogaaGreatDoorGqAO
import Derived.Test.YtpgnabmkfkcogaaGreatDoorGtR
import Derived.Test.YtpgnabmkfkcogaaGreatDoorGqAL
namespace Go.Proofs.YtpgnabmkfkcogaaGreatDoor
open Go.RowKit

/-- what is wrong with a circuit and its inputs -/
noncomputable def vle (wide : Int) (lys : List (List GatZ)) (m : Nat) : Int := if flt wide lys = 0 then (if m = 2 ^ wide.toNat then 0 else 2) else flt wide lys
/-- what all gates are; nothing, where something is wrong -/
noncomputable def gvr (p : Nat) (wide : Int) (lys : List (List GatZ)) (inputs : List Int) : List (List Int) := if vle wide lys inputs.length = 0 then gva p lys inputs (lys.length + 1) else []
theorem vle_zero {wide : Int} {lys : List (List GatZ)} {m : Nat} (h : vle wide lys m = 0) : SzC wide lys ∧ GtC wide lys ∧ m = 2 ^ wide.toNat := by
  unfold vle at h
  by_cases h1 : flt wide lys = 0
  · rw [if_pos h1] at h
    by_cases h2 : m = 2 ^ wide.toNat
    · exact ⟨(flt_zero h1).1, (flt_zero h1).2, h2⟩
    · rw [if_neg h2] at h; omega
  · rw [if_neg h1] at h; exact absurd h h1

set_option maxRecDepth 100000 in
set_option maxHeartbeats 1000000 in
theorem gatesValues_any (p b cL ci : Nat) (wide : Int) (aL ai : Option Addr) (lys : List (List GatZ)) (inputs : List Int) (w : World) (hIT : InT p b w) (hB : CirB lys) (hl : LstGG w.heap.size w aL cL lys) (hi : Lst w.heap.size w ai ci inputs) (hf : Fits inputs) :
    Calls Tryz.prog 34 #[.pointer (some ⟨b, 0, none⟩), .agg #[.int .i64 wide, .slice aL lys.length cL], .slice ai inputs.length ci] w fun e w' => ∃ v, e = .returned (.tuple #[v, errz (vle wide lys inputs.length)]) ∧ OwnR w.heap.size w' v (gvr p wide lys inputs) ∧ Below w.heap.size w w' := by
  obtain ⟨W0, hW0⟩ : ∃ W0, W0 = w.alloc (.cells #[.int .i64 wide, .slice aL lys.length cL] 69) := ⟨_, rfl⟩
  obtain ⟨hb0, hs0, hz0⟩ := own_blk hW0
  obtain ⟨G, hG⟩ : ∃ G, G = w.heap.size := ⟨_, rfl⟩
  rw [← hG] at hs0
  have HC : Hid (∀ W, Below W0.heap.size W0 W → W.cell? ⟨G, 0, none⟩ = some (.int .i64 wide) ∧ W.cell? ⟨G, 1, none⟩ = some (.slice aL lys.length cL)) := fun W hW => by
    have e1 := (hW.block G (Array.getElem?_eq_some_iff.1 hs0).1).trans hs0
    exact ⟨by simp [World.cell?, e1], by simp [World.cell?, e1]⟩
  have HFO := hid (faultOf_any wide cL aL lys W0 hB (hl.step hb0))
  have HB0 := hid hb0
  have HWG := hid hW0
  have HG := hid hG
  obtain ⟨c0, c1⟩ := HC.out W0 (Below.refl _ _)
  by_cases hF : flt wide lys = 0
  · rw [hF] at HFO
    have hv6 : wide.toNat ≤ 6 := by have := (flt_zero hF).1.1; omega
    obtain ⟨v, hv⟩ : ∃ v : Nat, wide = (v : Int) := ⟨wide.toNat, by have := (flt_zero hF).1.1; omega⟩
    have hsh := shl_pow (v := v) (by omega)
    have hvt : wide.toNat = v := by omega
    have HFZ := hid (flt_zero hF)
    by_cases hM : inputs.length = 2 ^ wide.toNat
    · have HV0 : Hid (vle wide lys inputs.length = 0) := by unfold Hid vle; rw [if_pos hF, if_pos hM]
      have HR : Hid (gvr p wide lys inputs = gva p lys inputs (lys.length + 1)) := by unfold Hid gvr; rw [if_pos HV0.out]
      rw [HV0.out, HR.out]
      have HVO : Hid (∀ W, Below W0.heap.size W0 W → Calls Tryz.prog 92 #[.pointer (some ⟨b, 0, none⟩), .agg #[.int .i64 wide, .slice aL lys.length cL], .slice ai inputs.length ci] W fun e w' => ∃ v, e = .returned v ∧ OwnR W.heap.size w' v (gva p lys inputs (lys.length + 1)) ∧ Below W.heap.size W w') := fun W hW => by
        have hw := hb0.trans (hW.mono hb0.size)
        exact valuesOf_any p b cL ci wide aL ai lys inputs W (hIT.below hw) HFZ.out.1 HFZ.out.2 hM (hl.step hw) ((hi.below hw).mono hw.size) hf
      rw [hvt] at hM
      have hm2 : ((inputs.length : Int) != wrap64 (2 ^ min v 64)) = false := by rw [hsh, hM]; simp
      subst hv
      generalize gva p lys inputs (lys.length + 1) = Y at *
      generalize lys.length = n at *
      generalize inputs.length = m at *
      clear HFZ HV0 HR hF hIT hB hl hi hf hW0 hs0 hz0 hb0 hG hM hsh hvt hv6
      go_enter Tryz.func34, Tryz.ntmps34
      go_wp2_with fail
      rw [← HG.out, ← HWG.out]
      clear HWG
      refine HFO.out.mono ?_
      rintro e w1 ⟨rfl, hb1⟩
      rw [errz_nil]
      have HVX := hid (HVO.out w1 hb1)
      obtain ⟨d0, d1⟩ := HC.out w1 hb1
      have HB1 : Hid (Below w.heap.size w w1) := HB0.out.trans (hb1.mono HB0.out.size)
      clear hb1 c0 c1
      go_wp2_with fail
      refine HVX.out.mono ?_
      rintro e w2 ⟨v2, rfl, ho, hb2⟩
      have HE : Hid (OwnR w.heap.size w2 v2 Y ∧ Below w.heap.size w w2) := ⟨ho.mono HB1.out.size, HB1.out.trans (hb2.mono HB1.out.size)⟩
      clear ho hb2
      go_wp2_with fail
      go_ret2
      exact ⟨v2, rfl, HE.out⟩
    · have HV0 : Hid (vle wide lys inputs.length = 2) := by unfold Hid vle; rw [if_pos hF, if_neg hM]
      have HR : Hid (gvr p wide lys inputs = []) := by unfold Hid gvr; rw [HV0.out]; rfl
      rw [HV0.out, HR.out]
      rw [hvt] at hM
      have hm2 : ((inputs.length : Int) != wrap64 (2 ^ min v 64)) = true := by rw [hsh, bne_iff_ne]; omega
      subst hv
      generalize lys.length = n at *
      generalize inputs.length = m at *
      clear HFZ HV0 HR hF hIT hB hl hi hf hW0 hs0 hz0 hb0 hG hM hsh hvt hv6
      go_enter Tryz.func34, Tryz.ntmps34
      go_wp2_with fail
      rw [← HG.out, ← HWG.out]
      clear HWG
      refine HFO.out.mono ?_
      rintro e w1 ⟨rfl, hb1⟩
      rw [errz_nil]
      obtain ⟨d0, d1⟩ := HC.out w1 hb1
      have HB1 : Hid (Below w.heap.size w w1) := HB0.out.trans (hb1.mono HB0.out.size)
      clear hb1 c0 c1
      go_wp2_with fail
      go_ret2
      exact ⟨_, rfl, OwnR.nil _ _, HB1.out⟩
  · have HV0 : Hid (vle wide lys inputs.length = flt wide lys) := by unfold Hid vle; rw [if_neg hF]
    have HR : Hid (gvr p wide lys inputs = []) := by unfold Hid gvr; rw [HV0.out, if_neg hF]
    rw [HV0.out, HR.out]
    rw [errz_some hF] at HFO ⊢
    generalize flt wide lys = V at *
    generalize lys.length = n at *
    generalize inputs.length = m at *
    clear HV0 HR hF hIT hB hl hi hf hW0 hs0 hz0 hb0 hG
    go_enter Tryz.func34, Tryz.ntmps34
    go_wp2_with fail
    rw [← HG.out, ← HWG.out]
    clear HWG
    refine HFO.out.mono ?_
    rintro e w1 ⟨rfl, hb1⟩
    have HB1 : Hid (Below w.heap.size w w1) := HB0.out.trans (hb1.mono HB0.out.size)
    clear hb1 c0 c1
    go_wp2_with fail
    go_ret2
    exact ⟨_, rfl, OwnR.nil _ _, HB1.out⟩

end Go.Proofs.YtpgnabmkfkcogaaGreatDoor

namespace Go.Proofs.YtpgnabmkfkcogaaGreatDoor
open Go.RowKit

end Go.Proofs.YtpgnabmkfkcogaaGreatDoor

namespace Go.Proofs.YtpgnabmkfkcogaaGreatDoor
open Go.RowKit

/-- a circuit of one gate -/
def oneL : List (List GatZ) := [[⟨1, 0, 0⟩]]
theorem one_flt : flt 0 oneL = 0 := by
  have hS : SzC 0 oneL := ⟨⟨by decide, by decide⟩, ⟨by decide, by decide⟩, fun k hk => by
    obtain rfl : k = 0 := by simp [oneL] at hk; exact hk
    decide⟩
  have hG : GtC 0 oneL := fun i hi k hk => by
    obtain rfl : i = 0 := by simp [oneL] at hi; exact hi
    obtain rfl : k = 0 := by simp [oneL, lyt] at hk; exact hk
    decide
  unfold flt
  rw [if_pos hS, if_pos hG]
theorem one_vle : vle 0 oneL 1 = 0 := by unfold vle; rw [if_pos one_flt]; rfl
theorem one_gvs {p : Nat} (h3 : 3 ≤ p) : gvs p oneL [1] 1 = [1] := by
  have e : (1 : Int) % (p : Int) = 1 := Int.emod_eq_of_lt (by omega) (by omega)
  show ls (fun i => jnz p (gat [⟨1, 0, 0⟩] i).kind (zat (ls (fun i => zat [1] i % (p : Int)) 1) (gat [⟨1, 0, 0⟩] i).a.toNat) (zat (ls (fun i => zat [1] i % (p : Int)) 1) (gat [⟨1, 0, 0⟩] i).b.toNat)) 1 = [1]
  simp [ls, gat, zat, jnz, e]

/-- the world in which a circuit of one gate, and its one input, are laid -/
def oneW (W : World) : World := ((W.alloc (.cells #[.int .i64 1, .int .i64 0, .int .i64 0] 85)).alloc (.cells #[.slice (some ⟨W.heap.size, 0, none⟩) 1 1] 86)).alloc (.cells #[.int .i64 1] 3)
theorem oneW_below (W : World) : Below W.heap.size W (oneW W) := (((Below.refl _ _).alloc (Nat.le_refl _) _).alloc (by simp) _).alloc (by simp; omega) _
theorem oneW_lst (W : World) : LstGG (oneW W).heap.size (oneW W) (some ⟨W.heap.size + 1, 0, none⟩) 1 oneL ∧ Lst (oneW W).heap.size (oneW W) (some ⟨W.heap.size + 2, 0, none⟩) 1 [1] := by
  obtain ⟨W1, h1⟩ : ∃ W1, W1 = W.alloc (.cells #[.int .i64 1, .int .i64 0, .int .i64 0] 85) := ⟨_, rfl⟩
  obtain ⟨W2, h2⟩ : ∃ W2, W2 = W1.alloc (.cells #[.slice (some ⟨W.heap.size, 0, none⟩) 1 1] 86) := ⟨_, rfl⟩
  obtain ⟨W3, h3⟩ : ∃ W3, W3 = W2.alloc (.cells #[.int .i64 1] 3) := ⟨_, rfl⟩
  obtain ⟨b1, s1, z1⟩ := own_blk h1
  obtain ⟨b2, s2, z2⟩ := own_blk h2
  obtain ⟨b3, s3, z3⟩ := own_blk h3
  have e : oneW W = W3 := by rw [h3, h2, h1]; rfl
  rw [e]
  have t1 := ((b3.block W.heap.size (by omega)).trans (b2.block W.heap.size (by omega))).trans s1
  have t2 := (b3.block W1.heap.size (by omega)).trans s2
  rw [z1] at t2
  rw [z2, z1] at s3
  refine ⟨⟨fun k hk => ?_, by simp [oneL], fun h => by cases h⟩, ⟨fun k hk => ?_, by simp, fun h => by cases h⟩⟩
  · obtain rfl : k = 0 := by simp [oneL] at hk; exact hk
    refine ⟨W.heap.size + 1, 0, some ⟨W.heap.size, 0, none⟩, 1, rfl, by omega, by simp [World.cell?, t2, oneL, lyt], fun j hj => ?_, by simp [oneL, lyt], fun h => by cases h⟩
    obtain rfl : j = 0 := by simp [oneL, lyt] at hj; exact hj
    exact ⟨W.heap.size, 0, rfl, by omega, by simp [World.cell?, t1, oneL, lyt, gat], by simp [World.cell?, t1, oneL, lyt, gat], by simp [World.cell?, t1, oneL, lyt, gat]⟩
  · obtain rfl : k = 0 := by simp at hk; exact hk
    exact ⟨W.heap.size + 2, 0, rfl, by omega, by simp [World.cell?, s3, zat]⟩
theorem one_cir : CirB oneL := by
  refine ⟨by simp [oneL], fun k hk => ?_, fun k hk => ?_⟩
  · obtain rfl : k = 0 := by simp [oneL] at hk; exact hk
    simp [oneL, lyt]
  · obtain rfl : k = 0 := by simp [oneL] at hk; exact hk
    intro j hj
    obtain rfl : j = 0 := by simp [oneL, lyt] at hj; exact hj
    simp [oneL, lyt, gat, i64B]
theorem one_values (p b : Nat) (W : World) (hIT : InT p b W) :
    Calls Tryz.prog 34 #[.pointer (some ⟨b, 0, none⟩), .agg #[.int .i64 0, .slice (some ⟨W.heap.size + 1, 0, none⟩) 1 1], .slice (some ⟨W.heap.size + 2, 0, none⟩) 1 1] (oneW W) fun e w' => ∃ b2 o2 c2 b3 o3 c3, e = .returned (.tuple #[.slice (some ⟨b2, o2, none⟩) 2 c2, .nilIface]) ∧ w'.cell? ⟨b2, o2 + 1, none⟩ = some (.slice (some ⟨b3, o3, none⟩) 1 c3) ∧ w'.cell? ⟨b3, o3, none⟩ = some (.int .i64 1) ∧ Below W.heap.size W w' := by
  obtain ⟨h1, h2⟩ := oneW_lst W
  refine (gatesValues_any p b 1 1 0 (some ⟨W.heap.size + 1, 0, none⟩) (some ⟨W.heap.size + 2, 0, none⟩) oneL [1] (oneW W) (hIT.below (oneW_below W)) one_cir h1 h2 (fun j hj => by
    obtain rfl : j = 0 := by simp at hj; exact hj
    simp [zat])).mono ?_
  rintro e w' ⟨v, rfl, ho, hb⟩
  have hg : gvr p 0 oneL [1] = gva p oneL [1] 2 := by unfold gvr; rw [show ([1] : List Int).length = 1 from rfl, if_pos one_vle]; rfl
  rw [hg] at ho
  obtain ⟨a, c, rfl, hl⟩ := ho.lst
  rw [gva_len] at *
  obtain ⟨b2, o2, ak, ck, rfl, e2, e3, e4⟩ := hl.row 1 (by rw [gva_len]; omega)
  rw [gva_rat (by omega), one_gvs hIT.h3] at e3 e4
  obtain ⟨b3, o3, rfl, e5, e6⟩ := e4.row 0 (by simp)
  refine ⟨b2, o2, c, b3, o3, ck, ?_, e3, ?_, (oneW_below W).trans (hb.mono (oneW_below W).size)⟩
  · rw [show ([1] : List Int).length = 1 from rfl, one_vle]
    rfl
  · simpa [zat] using e6

end Go.Proofs.YtpgnabmkfkcogaaGreatDoor
