/- The law GatesTrue: its walk. -/
import Derived.Test.YtpgnabmkfkcogaaGreatDoorGuN
import Derived.Test.YtpgnabmkfkcogaaGreatDoorGuG
import Derived.Test.YtpgnabmkfkcogaaGreatDoorGqAP
import Derived.Test.YtpgnabmkfkcogaaGreatDoorGqAG
import Derived.Test.YtpgnabmkfkcogaaGreatDoorGqAX
namespace Go.Proofs.YtpgnabmkfkcogaaGreatDoor
open Go.RowKit

set_option maxRecDepth 100000 in
set_option maxHeartbeats 4000000 in
theorem jtrue_good (q cL ci : Nat) (wide : Int) (aL ai : Option Addr) (lys : List (List GatZ)) (inputs : List Int) (w : World) (hT : TabAt 2 Lib.deBruijn64tab w) (h23 : 23 ≤ q) (h4 : q ≤ 2147483647) (hpr : Num.Prime q) (hB : CirB lys) (hl : LstGG w.heap.size w aL cL lys) (hI : InL w ai ci inputs) :
    Calls Tryz.prog 6 #[.int .i64 (q : Int), .agg #[.int .i64 wide, .slice aL lys.length cL], .slice ai inputs.length ci] w fun e w' => e = .returned (.bool true) ∧ Below w.heap.size w w' := by
  have h3 : 3 ≤ q := by omega
  obtain ⟨nL, hnL⟩ : ∃ nL, nL = lys.length := ⟨_, rfl⟩
  obtain ⟨ni, hni⟩ : ∃ ni, ni = inputs.length := ⟨_, rfl⟩
  obtain ⟨W0, hW0⟩ : ∃ W0, W0 = w.alloc (.cells #[.int .i64 wide, .slice aL nL cL] 69) := ⟨_, rfl⟩
  obtain ⟨hb0, hs0, hz0⟩ := own_blk hW0
  obtain ⟨G, hG⟩ : ∃ G, G = w.heap.size := ⟨_, rfl⟩
  rw [← hG] at hs0
  have HC : Hid (∀ W, Below W0.heap.size W0 W → W.cell? ⟨G, 0, none⟩ = some (.int .i64 wide) ∧ W.cell? ⟨G, 1, none⟩ = some (.slice aL nL cL)) := fun W hW => by
    have e1 := (hW.block G (Array.getElem?_eq_some_iff.1 hs0).1).trans hs0
    exact ⟨by simp [World.cell?, e1], by simp [World.cell?, e1]⟩
  have HBK : Hid (∀ W, Below W0.heap.size W0 W → Below w.heap.size w W) := fun W hW => hb0.trans (hW.mono hb0.size)
  have HSY := hid (sponge_yes q W0 h23 h4 hpr)
  have HITX : Hid (∀ (W : World) (sp b n d : Nat), SpgAt W sp b q n d → Below W0.heap.size W0 W → InT q b W) := fun W sp b n d hs hW => ⟨⟨hpr, h3, h4, hs.p⟩, tabu_below hT (hb0.trans (hW.mono hb0.size))⟩
  obtain ⟨V, hVV⟩ : ∃ V, V = vle wide lys inputs.length := ⟨_, rfl⟩
  have HON : Hid (∀ (b : Nat) (W : World), InT q b W → Calls Tryz.prog 34 #[.pointer (some ⟨b, 0, none⟩), .agg #[.int .i64 0, .slice (some ⟨W.heap.size + 1, 0, none⟩) 1 1], .slice (some ⟨W.heap.size + 1 + 1, 0, none⟩) 1 1] (((W.alloc (.cells #[.int .i64 1, .int .i64 0, .int .i64 0] 85)).alloc (.cells #[.slice (some ⟨W.heap.size, 0, none⟩) 1 1] 86)).alloc (.cells #[.int .i64 1] 3)) fun e w' => ∃ b2 o2 c2 b3 o3 c3, e = .returned (.tuple #[.slice (some ⟨b2, o2, none⟩) 2 c2, .nilIface]) ∧ w'.cell? ⟨b2, o2 + 1, none⟩ = some (.slice (some ⟨b3, o3, none⟩) 1 c3) ∧ w'.cell? ⟨b3, o3, none⟩ = some (.int .i64 1) ∧ Below W.heap.size W w') := fun b W h => one_values q b W h
  have HMN : Hid (V ≠ 0 → ∀ (W : World) (sp b n d : Nat), SpgAt W sp b q n d → InT q b W → Below W0.heap.size W0 W → Calls Tryz.prog 29 #[.pointer (some ⟨sp, 0, none⟩), .agg #[.int .i64 wide, .slice aL nL cL], .slice ai ni ci] W fun e w' => e = .returned (.tuple #[.agg #[.slice none 0 0, .slice none 0 0], errz V]) ∧ Below W.heap.size W w') := fun hv W sp b n d hs hi hW => by
    have hw := hb0.trans (hW.mono hb0.size)
    have h := gmake_no q n d sp b cL ci wide aL ai lys inputs W hs hi hB (hl.step hw) ((hI.below hw).lst) hI.fit (by rw [← hVV]; exact hv)
    rw [← hVV, ← hnL, ← hni] at h
    exact h
  have HMY : Hid (V = 0 → ∀ (W : World) (sp b n d : Nat), SpgOk q n d → SpgAt W sp b q n d → InT q b W → Below W0.heap.size W0 W → Calls Tryz.prog 29 #[.pointer (some ⟨sp, 0, none⟩), .agg #[.int .i64 wide, .slice aL nL cL], .slice ai ni ci] W fun e w' => ∃ aR cR aS cS, e = .returned (.tuple #[.agg #[.slice aR nL cR, .slice aS nL cS], .nilIface]) ∧ LstRR w'.heap.size w' aR cR (mRs q n wide lys inputs lys.length) ∧ LstR w'.heap.size w' aS cS (mLs q n wide lys inputs lys.length) ∧ Below W.heap.size W w') := fun hv W sp b n d ok hs hi hW => by
    have hw := hb0.trans (hW.mono hb0.size)
    have h := gmake_yes q n d sp b cL ci wide aL ai lys inputs W ok hs h23 hi hB (hl.step hw) ((hI.below hw).lst) hI.fit (by rw [← hVV]; exact hv)
    rw [← hnL, ← hni] at h
    refine h.mono ?_
    rintro e w' ⟨aR, cR, aS, cS, rfl, hM, h2⟩
    exact ⟨aR, cR, aS, cS, rfl, by rw [← hnL]; exact hM.rdR (fun k hk j hj => (mRs_three h3 h4 (by rw [mRs_len] at hk; exact hk) j hj).1), by rw [← hnL]; exact hM.lnR, h2⟩
  have HVA0 : Hid (V = 0 → ∀ (b : Nat) (W : World), InT q b W → Below W0.heap.size W0 W → Calls Tryz.prog 34 #[.pointer (some ⟨b, 0, none⟩), .agg #[.int .i64 wide, .slice aL nL cL], .slice ai ni ci] W fun e w' => ∃ v, e = .returned (.tuple #[v, .nilIface]) ∧ OwnR W.heap.size w' v (gva q lys inputs (nL + 1)) ∧ Below W.heap.size W w') := fun hv b W hi hW => by
    have hw := hb0.trans (hW.mono hb0.size)
    have h := gatesValues_any q b cL ci wide aL ai lys inputs W hi hB (hl.step hw) ((hI.below hw).lst) hI.fit
    rw [← hVV, hv, errz_nil, ← hnL, ← hni] at h
    unfold gvr at h
    rw [if_pos (by rw [← hVV]; exact hv), ← hnL] at h
    exact h
  obtain ⟨no, hno⟩ : ∃ no, no = (gvs q lys inputs nL).length := ⟨_, rfl⟩
  have HZX : Hid (∀ n, ∃ nz X, (V = 0 → ∀ (W : World) (sp b d co cR cS : Nat) (ao aR aS : Option Addr), SpgOk q n d → SpgAt W sp b q n d → InT q b W → Below W0.heap.size W0 W → LstRR W.heap.size W aR cR (mRs q n wide lys inputs lys.length) → LstR W.heap.size W aS cS (mLs q n wide lys inputs lys.length) → Lst W.heap.size W ao co (gvs q lys inputs nL) → Calls Tryz.prog 35 #[.pointer (some ⟨sp, 0, none⟩), .agg #[.int .i64 wide, .slice aL nL cL], .slice ao no co, .agg #[.slice aR nL cR, .slice aS nL cS]] W fun e w' => ∃ a' c', e = .returned (.tuple #[.slice a' nz c', .int .i64 X, .bool true]) ∧ InL w' a' c' (mst q n wide lys inputs lys.length).z ∧ Below W.heap.size W w') ∧
      (V = 0 → ∀ (W : World) (b ca : Nat) (aa : Option Addr), InT q b W → Below W0.heap.size W0 W → InL W aa ca (mst q n wide lys inputs lys.length).z → Calls Tryz.prog 27 #[.pointer (some ⟨b, 0, none⟩), .slice ai ni ci, .slice aa nz ca] W fun e w' => e = .returned (.tuple #[.int .i64 X, .nilIface]) ∧ Below W.heap.size W w')) := fun n => by
    refine ⟨(mst q n wide lys inputs lys.length).z.length, (mst q n wide lys inputs lys.length).c, fun hv W sp b d co cR cS ao aR aS ok hs hi hW hRR hR hla => ?_, fun hv W b ca aa hi hW hla => ?_⟩
    · have hw := hb0.trans (hW.mono hb0.size)
      obtain ⟨hS, hGC, hin⟩ := vle_zero (hVV.symm.trans hv)
      have hF : flt wide lys = 0 := by
        by_cases h : flt wide lys = 0
        · exact h
        · have := hVV.symm.trans hv
          unfold vle at this
          rw [if_neg h] at this
          exact absurd this h
      have hTP := true_plain (n := n) hpr h23 hF hin
      have h := gcheck_yes q n d sp b cL co cR cS wide aL ao aR aS lys (gvs q lys inputs lys.length) (mRs q n wide lys inputs lys.length) (mLs q n wide lys inputs lys.length) W ok hs h23 hi hB (hl.step hw) (by rw [← hnL]; exact hla) (gvs_fits h3 h4 lys inputs _) hRR hR (made_layB h3 h4 hS) hTP.1.1
      rw [mRs_len, mLs_len, ← hnL, ← hno] at h
      refine h.mono ?_
      rintro e w' ⟨h1, _, h2⟩
      obtain ⟨a', c', rfl, hn⟩ := h1 (by rw [hnL]; exact hTP.1)
      have eg : gst q n wide lys (mRs q n wide lys inputs nL) (mLs q n wide lys inputs nL) (gs0 q n wide lys (gvs q lys inputs nL)) nL = mst q n wide lys inputs nL := by rw [hnL]; exact gst_mst _ (Nat.le_refl _)
      rw [eg, hnL] at hn ⊢
      have hok := mst_ok h3 h4 n wide lys inputs lys.length (Nat.le_refl _)
      exact ⟨a', c', rfl, ⟨by rw [hok.len]; have := (hS.bn (show lys.length - lys.length ≤ lys.length by omega)).2; omega, hok.fit, hn.1⟩, h2⟩
    · have hw := hb0.trans (hW.mono hb0.size)
      obtain ⟨hS, hGC, hin⟩ := vle_zero (hVV.symm.trans hv)
      have hF : flt wide lys = 0 := by
        by_cases h : flt wide lys = 0
        · exact h
        · have := hVV.symm.trans hv
          unfold vle at this
          rw [if_neg h] at this
          exact absurd this h
      have hTP := true_plain (n := n) hpr h23 hF hin
      have hok := mst_ok h3 h4 n wide lys inputs lys.length (Nat.le_refl _)
      have hzl : (mst q n wide lys inputs lys.length).z.length = wide.toNat := by rw [hok.len, Nat.sub_self]; rfl
      have hw6 : wide.toNat ≤ 6 := by have := (hS.bn (show 0 ≤ lys.length by omega)).2; exact this
      have h := ext_as q b ci ca ai aa inputs (mst q n wide lys inputs lys.length).z W hi (hI.below hw) hla
      have hv2 : vrs inputs.length = ((mst q n wide lys inputs lys.length).z.length : Int) := by rw [hzl]; exact vrs_yes (by omega) hin
      have e1 : exz q inputs (mst q n wide lys inputs lys.length).z = (mst q n wide lys inputs lys.length).c := by unfold exz; rw [if_pos hv2, hTP.2, hzl]
      have e2 : exe inputs (mst q n wide lys inputs lys.length).z = 0 := by unfold exe; rw [if_pos hv2]
      rw [e1, e2, errz_nil, ← hni] at h
      exact h
  have HL1 : Hid (V = 0 → 1 ≤ nL ∧ nL ≤ 8) := fun hv => by
    have := (vle_zero (hVV.symm.trans hv)).1.2.1
    omega
  have HLG : Hid (∀ (W : World) (v : Value) (base : Nat), OwnR base W v (gva q lys inputs (nL + 1)) → ∃ bv ov cv aN cN, v = .slice (some ⟨bv, ov, none⟩) (nL + 1) cv ∧ bv < W.heap.size ∧ W.cell? ⟨bv, ov + nL, none⟩ = some (.slice aN no cN) ∧ Lst W.heap.size W aN cN (gvs q lys inputs nL)) := fun W v base ho => by
    obtain ⟨av, cv, rfl, hlv⟩ := ownR_lst ho
    obtain ⟨bv, ov, ak, ck, rfl, e2, e3, e4⟩ := lst_gvs hlv (show nL < nL + 1 by omega)
    exact ⟨bv, ov, cv, ak, ck, by rw [gva_len], e2, by rw [hno]; exact e3, e4⟩
  have HWG := hid hW0
  have HGE := hid hG
  have HB0 := hid hb0
  have hmx : Tryz.prog.follows .mixedOrders = true := by kernel_rfl
  obtain ⟨c0, c1⟩ := HC.out W0 (Below.refl _ _)
  rw [← hnL, ← hni]
  clear hVV hnL hno hW0 hb0 hs0 hz0 hG hT hpr hB hl hI hni
  go_enter Tryz.func6, Tryz.ntmps6
  go_wp2_with fail
  rw [← HWG.out, ← HGE.out]
  refine HSY.out.mono ?_
  rintro e w1 ⟨sp, b, n, d, rfl, hok, hat, hb1⟩
  have HOK := hid hok
  have HAT := hid hat
  have HB1 := hid hb1
  have HIT : Hid (∀ W, Below w1.heap.size w1 W → InT q b W ∧ SpgAt W sp b q n d ∧ Below W0.heap.size W0 W) := fun W hW => by
    have hs := HAT.out.below hW HAT.out.lt HAT.out.ltb
    have hw := HB1.out.trans (hW.mono HB1.out.size)
    exact ⟨HITX.out W sp b n d hs hw, hs, hw⟩
  have HFI : Hid (∀ W, Below w1.heap.size w1 W → Calls Tryz.prog 9 #[.pointer (some ⟨sp, 0, none⟩)] W fun e w' => e = .returned (.pointer (some ⟨b, 0, none⟩)) ∧ w' = W) := fun W hW => sfield_any q n d b sp W (HIT.out W hW).2.1
  clear hok hat hb1 c0 c1 HSY
  go_wp2_with fail
  refine (HFI.out w1 (Below.refl _ _)).mono ?_
  rintro e w2 ⟨rfl, hw⟩
  have hw1 := hw.symm
  subst hw1
  clear hw
  go_wp2_with fail
  refine (HON.out b w1 (HIT.out w1 (Below.refl _ _)).1).mono ?_
  rintro e w3 ⟨b2, o2, c2, b3, o3, c3, rfl, e3, e4, hb3⟩
  have HB3 := hid hb3
  obtain ⟨k0, k1⟩ := HC.out w3 (HIT.out w3 hb3).2.2
  clear hb3
  go_wp2_with fail
  by_cases hV : V = 0
  case neg =>
    refine (HMN.out hV w3 sp b n d (HIT.out w3 HB3.out).2.1 (HIT.out w3 HB3.out).1 (HIT.out w3 HB3.out).2.2).mono ?_
    rintro e w4 ⟨rfl, hb4⟩
    have HE : Hid (Below w.heap.size w (w4.alloc (.cells #[.slice none 0 0, .slice none 0 0] 74))) := by
      have h1 := HBK.out _ ((HIT.out w3 HB3.out).2.2.trans (hb4.mono (HIT.out w3 HB3.out).2.2.size))
      exact h1.alloc h1.size _
    rw [errz_some hV]
    clear hb4 e3 e4 k0 k1 HMY HMN HVA0 HZX HLG HL1
    go_wp2_with fail
    go_ret
    exact ⟨rfl, HE.out⟩
  refine (HMY.out hV w3 sp b n d HOK.out (HIT.out w3 HB3.out).2.1 (HIT.out w3 HB3.out).1 (HIT.out w3 HB3.out).2.2).mono ?_
  rintro e w4 ⟨aR, cR, aS, cS, rfl, hRR, hR, hb4⟩
  obtain ⟨O, hO⟩ : ∃ O, O = w4.heap.size := ⟨_, rfl⟩
  obtain ⟨W3, hW3⟩ : ∃ W3, W3 = w4.alloc (.cells #[.slice aR nL cR, .slice aS nL cS] 74) := ⟨_, rfl⟩
  obtain ⟨hba, hsa, hza⟩ := own_blk hW3
  rw [← hO] at hsa
  have HB14 : Hid (Below w1.heap.size w1 w4) := HB3.out.trans (hb4.mono HB3.out.size)
  have HB13 : Hid (Below w1.heap.size w1 W3) := HB14.out.trans (hba.mono HB14.out.size)
  have HWD : Hid (Below W0.heap.size W0 W3.drew) := (HIT.out W3 HB13.out).2.2.drew
  have HSD : Hid (Below w1.heap.size w1 W3.drew) := HB13.out.drew
  have HIT3 : Hid (InT q b W3.drew) := (HIT.out W3.drew HSD.out).1
  have HRR := hid (hRR.below hba)
  have HRX : Hid (LstRR W3.heap.size W3 aR cR (mRs q n wide lys inputs lys.length)) := ⟨fun k hk => by obtain ⟨b', o', ak, ck, e1, e2, e3, e4⟩ := HRR.out.row k hk; exact ⟨b', o', ak, ck, e1, by have := hba.size; omega, e3, e4.mono hba.size⟩, hRR.room, hRR.nil⟩
  have HRL : Hid (LstR W3.heap.size W3 aS cS (mLs q n wide lys inputs lys.length)) := (hR.below hba).mono hba.size
  have HOB : Hid (∀ W, Below W3.heap.size W3 W → W.cell? ⟨O, 0, none⟩ = some (.slice aR nL cR) ∧ W.cell? ⟨O, 1, none⟩ = some (.slice aS nL cS)) := fun W hW => by
    have e1 := (hW.block O (Array.getElem?_eq_some_iff.1 hsa).1).trans hsa
    exact ⟨by simp [World.cell?, e1], by simp [World.cell?, e1]⟩
  have HVA := hid (HVA0.out hV b)
  have HW3 := hid hW3
  have HOE := hid hO
  obtain ⟨hL1, hL8⟩ := HL1.out hV
  obtain ⟨nz, X, hCX, hEX⟩ := HZX.out n
  have HCX := hid (hCX hV)
  have HEX := hid (hEX hV)
  clear hCX hEX hRR hR hb4 hba hsa hza hO hW3 e3 e4 k0 k1 HMY HMN HVA0 HZX HL1 HRR hV
  obtain ⟨k0, k1⟩ := HC.out W3 (HIT.out W3 HB13.out).2.2
  go_wp2_with fail
  rw [← HOE.out, ← HW3.out]
  refine wp_region_held_drew (S := fun W => W.cell? ⟨G, 0, none⟩ = some (.int .i64 wide) ∧ W.cell? ⟨G, 1, none⟩ = some (.slice aL nL cL)) (by kernel_rfl) (HC.out _ HWD.out) (fun hHeld => ?_)
  refine wpAnyH_takeU (i := 0) (v := .pointer (some ⟨sp, 0, none⟩)) rfl (by kernel_rfl) (by kernel_rfl) (by kernel_rfl) (fun _ _ _ h => h) (by rfl) (fun W hC => by go_simp) hHeld ?_
  simp only [Act.put, List.setIfInBounds_toArray, List.set_cons_zero, List.set_cons_succ]
  refine wpAnyH_takeU (i := 2) (v := .agg #[.int .i64 wide, .slice aL nL cL]) rfl (by kernel_rfl) (by kernel_rfl) (by kernel_rfl) (fun _ _ _ h => h) (by rfl) (fun W hC => by (obtain ⟨x1, x2⟩ := hC); go_simp) hHeld ?_
  simp only [Act.put, List.setIfInBounds_toArray, List.set_cons_zero, List.set_cons_succ]
  refine wpAnyH_takeU (i := 3) (v := .slice ai ni ci) rfl (by kernel_rfl) (by kernel_rfl) (by kernel_rfl) (fun _ _ _ h => h) (by rfl) (fun W hC => by go_simp) hHeld ?_
  simp only [Act.put, List.setIfInBounds_toArray, List.set_cons_zero, List.set_cons_succ]
  refine wpAnyH_ready (rs := [1]) (by kernel_rfl) (by simp) ?_
  refine AllReadyH.consU rfl (fun K' hK' => ?_) AllReadyH.nil
  go_simp
  refine (HFI.out _ HSD.out).mono ?_
  rintro e w4 ⟨rfl, hw⟩
  have hw1 := hw.symm
  subst hw1
  clear hw
  refine hK'.out _ _ (HC.out _ HWD.out) (fun hHeld => ?_)
  clear hK' K'
  refine wpAnyH_ready (rs := [4]) (by kernel_rfl) (by simp) ?_
  refine AllReadyH.consU rfl (fun K' hK' => ?_) AllReadyH.nil
  go_simp
  refine (HVA.out _ HIT3.out HWD.out).mono ?_
  rintro e w5 ⟨vv, rfl, ho5, hb5⟩
  have H5 : Hid (Below W0.heap.size W0 w5) := HWD.out.trans (hb5.mono HWD.out.size)
  have H35 : Hid (Below W3.drew.heap.size W3.drew w5) := hb5
  have HO5 := hid ho5
  clear ho5 hb5
  refine hK'.out _ _ (HC.out _ H5.out) (fun hHeld => ?_)
  clear hK' K'
  refine wpAnyH_takeU (i := 5) (v := .tuple #[vv, .nilIface]) rfl (by kernel_rfl) (by kernel_rfl) (by kernel_rfl) (fun _ _ _ h => h) (by rfl) (fun W hC => by go_simp) hHeld ?_
  simp only [Act.put, List.setIfInBounds_toArray, List.set_cons_zero, List.set_cons_succ]
  refine wpAnyH_takeU (i := 6) (v := vv) rfl (by kernel_rfl) (by kernel_rfl) (by kernel_rfl) (fun _ _ _ h => h) (by rfl) (fun W hC => by go_simp) hHeld ?_
  simp only [Act.put, List.setIfInBounds_toArray, List.set_cons_zero, List.set_cons_succ]
  refine wpAnyH_takeU (i := 7) (v := .nilIface) rfl (by kernel_rfl) (by kernel_rfl) (by kernel_rfl) (fun _ _ _ h => h) (by rfl) (fun W hC => by go_simp) hHeld ?_
  simp only [Act.put, List.setIfInBounds_toArray, List.set_cons_zero, List.set_cons_succ]
  refine wpAnyH_takeU (i := 8) (v := vv) rfl (by kernel_rfl) (by kernel_rfl) (by kernel_rfl) (fun _ _ _ h => h) (by rfl) (fun W hC => by go_simp) hHeld ?_
  simp only [Act.put, List.setIfInBounds_toArray, List.set_cons_zero, List.set_cons_succ]
  refine wpAnyH_takeU (i := 9) (v := .nilIface) rfl (by kernel_rfl) (by kernel_rfl) (by kernel_rfl) (fun _ _ _ h => h) (by rfl) (fun W hC => by go_simp) hHeld ?_
  simp only [Act.put, List.setIfInBounds_toArray, List.set_cons_zero, List.set_cons_succ]
  refine wpAnyH_done (by kernel_rfl) ?_ _
  obtain ⟨bv, ov, cv, aN, cN, rfl, hbv, hcN, hlN⟩ := HLG.out w5 vv _ HO5.out
  obtain ⟨nv, hnv⟩ : ∃ nv, nv = nL + 1 := ⟨_, rfl⟩
  rw [← hnv]
  have HB35 : Hid (Below W3.heap.size W3 w5) := (Below.refl W3.heap.size W3).drew.trans H35.out
  have HB25 : Hid (Below w1.heap.size w1 w5) := HB13.out.trans (HB35.out.mono HB13.out.size)
  have HWE : Hid (Below w5.heap.size w5 w5.drew) := (Below.refl _ _).drew
  have HS13 : Hid (∀ W, Below w5.heap.size w5 W → (W.cell? ⟨G, 0, none⟩ = some (.int .i64 wide) ∧ W.cell? ⟨G, 1, none⟩ = some (.slice aL nL cL)) ∧ W.cell? ⟨bv, ov + nL, none⟩ = some (.slice aN no cN) ∧ W.cell? ⟨O, 0, none⟩ = some (.slice aR nL cR) ∧ W.cell? ⟨O, 1, none⟩ = some (.slice aS nL cS)) := fun W hW => ⟨HC.out W (H5.out.trans (hW.mono H5.out.size)), (hW.cell (p := ⟨bv, ov + nL, none⟩) hbv).trans hcN, HOB.out W (HB35.out.trans (hW.mono HB35.out.size))⟩
  have HCH : Hid (Calls Tryz.prog 35 #[.pointer (some ⟨sp, 0, none⟩), .agg #[.int .i64 wide, .slice aL nL cL], .slice aN no cN, .agg #[.slice aR nL cR, .slice aS nL cS]] w5.drew fun e w' => ∃ a' c', e = .returned (.tuple #[.slice a' nz c', .int .i64 X, .bool true]) ∧ InL w' a' c' (mst q n wide lys inputs lys.length).z ∧ Below w5.drew.heap.size w5.drew w') := by
    have hd : Below w1.heap.size w1 w5.drew := HB25.out.drew
    have hd3 : Below W3.heap.size W3 w5.drew := HB35.out.drew
    exact HCX.out w5.drew sp b d cN cR cS aN aR aS HOK.out (HIT.out _ hd).2.1 (HIT.out _ hd).1 (HIT.out _ hd).2.2 ⟨fun k hk => by obtain ⟨b', o', ak, ck, e1, e2, e3, e4⟩ := (HRX.out.below hd3).row k hk; exact ⟨b', o', ak, ck, e1, by have := hd3.size; omega, e3, e4.mono hd3.size⟩, HRX.out.room, HRX.out.nil⟩ ((HRL.out.below hd3).mono hd3.size) (hlN.below HWE.out)
  have h2v : ¬ (nv : Int) < 2 := by omega
  have hsub : IntKind.i64.wrap ((nv : Int) - 1) = (nL : Int) := by rw [IntKind.wrap_i64]; omega
  have hnLv : (nL : Int) < (nv : Int) := by omega
  have hL0 : ¬ (nL : Int) < 0 := by omega
  clear hbv hcN hlN hnv HLG HO5 HVA HCX HRX HRL k0 k1 H35
  go_wp2_with fail
  refine wp_region_held_drew (S := fun W => (W.cell? ⟨G, 0, none⟩ = some (.int .i64 wide) ∧ W.cell? ⟨G, 1, none⟩ = some (.slice aL nL cL)) ∧ W.cell? ⟨bv, ov + nL, none⟩ = some (.slice aN no cN) ∧ W.cell? ⟨O, 0, none⟩ = some (.slice aR nL cR) ∧ W.cell? ⟨O, 1, none⟩ = some (.slice aS nL cS)) (by kernel_rfl) (HS13.out _ HWE.out) (fun hHeld => ?_)
  refine wpAnyH_takeU (i := 0) (v := .pointer (some ⟨sp, 0, none⟩)) rfl (by kernel_rfl) (by kernel_rfl) (by kernel_rfl) (fun _ _ _ h => h) (by rfl) (fun W hC => by go_simp) hHeld ?_
  simp only [Act.put, List.setIfInBounds_toArray, List.set_cons_zero, List.set_cons_succ]
  refine wpAnyH_takeU (i := 1) (v := .agg #[.int .i64 wide, .slice aL nL cL]) rfl (by kernel_rfl) (by kernel_rfl) (by kernel_rfl) (fun _ _ _ h => h) (by rfl) (fun W hC => by (obtain ⟨⟨x1, x2⟩, x3, x4, x5⟩ := hC); go_simp) hHeld ?_
  simp only [Act.put, List.setIfInBounds_toArray, List.set_cons_zero, List.set_cons_succ]
  refine wpAnyH_takeU (i := 2) (v := .slice (some ⟨bv, ov, none⟩) nv cv) rfl (by kernel_rfl) (by kernel_rfl) (by kernel_rfl) (fun _ _ _ h => h) (by rfl) (fun W hC => by go_simp) hHeld ?_
  simp only [Act.put, List.setIfInBounds_toArray, List.set_cons_zero, List.set_cons_succ]
  refine wpAnyH_takeU (i := 3) (v := .slice (some ⟨bv, ov, none⟩) nv cv) rfl (by kernel_rfl) (by kernel_rfl) (by kernel_rfl) (fun _ _ _ h => h) (by rfl) (fun W hC => by go_simp) hHeld ?_
  simp only [Act.put, List.setIfInBounds_toArray, List.set_cons_zero, List.set_cons_succ]
  refine wpAnyH_takeU (i := 4) (v := .int .i64 (nv : Int)) rfl (by kernel_rfl) (by kernel_rfl) (by kernel_rfl) (fun _ _ _ h => h) (by rfl) (fun W hC => by go_simp) hHeld ?_
  simp only [Act.put, List.setIfInBounds_toArray, List.set_cons_zero, List.set_cons_succ]
  refine wpAnyH_takeU (i := 5) (v := .int .i64 (nL : Int)) rfl (by kernel_rfl) (by kernel_rfl) (by kernel_rfl) (fun _ _ _ h => h) (by rfl) (fun W hC => by go_simp) hHeld ?_
  simp only [Act.put, List.setIfInBounds_toArray, List.set_cons_zero, List.set_cons_succ]
  refine wpAnyH_takeU (i := 6) (v := .pointer (some ⟨bv, ov + nL, none⟩)) rfl (by kernel_rfl) (by kernel_rfl) (by kernel_rfl) (fun _ _ _ h => h) (by rfl) (fun W hC => by go_simp) hHeld ?_
  simp only [Act.put, List.setIfInBounds_toArray, List.set_cons_zero, List.set_cons_succ]
  refine wpAnyH_takeU (i := 7) (v := .slice aN no cN) rfl (by kernel_rfl) (by kernel_rfl) (by kernel_rfl) (fun _ _ _ h => h) (by rfl) (fun W hC => by (obtain ⟨⟨x1, x2⟩, x3, x4, x5⟩ := hC); go_simp) hHeld ?_
  simp only [Act.put, List.setIfInBounds_toArray, List.set_cons_zero, List.set_cons_succ]
  refine wpAnyH_takeU (i := 8) (v := .agg #[.slice aR nL cR, .slice aS nL cS]) rfl (by kernel_rfl) (by kernel_rfl) (by kernel_rfl) (fun _ _ _ h => h) (by rfl) (fun W hC => by (obtain ⟨⟨x1, x2⟩, x3, x4, x5⟩ := hC); go_simp) hHeld ?_
  simp only [Act.put, List.setIfInBounds_toArray, List.set_cons_zero, List.set_cons_succ]
  refine wpAnyH_ready (rs := [9]) (by kernel_rfl) (by simp) ?_
  refine AllReadyH.consU rfl (fun K' hK' => ?_) AllReadyH.nil
  go_simp
  refine (HCH.out).mono ?_
  rintro e w7 ⟨a7, c7, rfl, hl7, hb7⟩
  have H7 : Hid (Below w5.heap.size w5 w7) := HWE.out.trans (hb7.mono HWE.out.size)
  have HL7 := hid hl7
  clear hl7 hb7
  refine hK'.out _ _ (HS13.out _ H7.out) (fun hHeld => ?_)
  clear hK' K'
  refine wpAnyH_takeU (i := 10) (v := .tuple #[.slice a7 nz c7, .int .i64 X, .bool true]) rfl (by kernel_rfl) (by kernel_rfl) (by kernel_rfl) (fun _ _ _ h => h) (by rfl) (fun W hC => by go_simp) hHeld ?_
  simp only [Act.put, List.setIfInBounds_toArray, List.set_cons_zero, List.set_cons_succ]
  refine wpAnyH_takeU (i := 11) (v := .slice a7 nz c7) rfl (by kernel_rfl) (by kernel_rfl) (by kernel_rfl) (fun _ _ _ h => h) (by rfl) (fun W hC => by go_simp) hHeld ?_
  simp only [Act.put, List.setIfInBounds_toArray, List.set_cons_zero, List.set_cons_succ]
  refine wpAnyH_takeU (i := 12) (v := .int .i64 X) rfl (by kernel_rfl) (by kernel_rfl) (by kernel_rfl) (fun _ _ _ h => h) (by rfl) (fun W hC => by go_simp) hHeld ?_
  simp only [Act.put, List.setIfInBounds_toArray, List.set_cons_zero, List.set_cons_succ]
  refine wpAnyH_takeU (i := 13) (v := .bool true) rfl (by kernel_rfl) (by kernel_rfl) (by kernel_rfl) (fun _ _ _ h => h) (by rfl) (fun W hC => by go_simp) hHeld ?_
  simp only [Act.put, List.setIfInBounds_toArray, List.set_cons_zero, List.set_cons_succ]
  refine wpAnyH_takeU (i := 14) (v := .slice a7 nz c7) rfl (by kernel_rfl) (by kernel_rfl) (by kernel_rfl) (fun _ _ _ h => h) (by rfl) (fun W hC => by go_simp) hHeld ?_
  simp only [Act.put, List.setIfInBounds_toArray, List.set_cons_zero, List.set_cons_succ]
  refine wpAnyH_takeU (i := 15) (v := .int .i64 X) rfl (by kernel_rfl) (by kernel_rfl) (by kernel_rfl) (fun _ _ _ h => h) (by rfl) (fun W hC => by go_simp) hHeld ?_
  simp only [Act.put, List.setIfInBounds_toArray, List.set_cons_zero, List.set_cons_succ]
  refine wpAnyH_takeU (i := 16) (v := .bool true) rfl (by kernel_rfl) (by kernel_rfl) (by kernel_rfl) (fun _ _ _ h => h) (by rfl) (fun W hC => by go_simp) hHeld ?_
  simp only [Act.put, List.setIfInBounds_toArray, List.set_cons_zero, List.set_cons_succ]
  refine wpAnyH_done (by kernel_rfl) ?_ _
  have HB27 : Hid (Below w1.heap.size w1 w7) := HB25.out.trans (H7.out.mono HB25.out.size)
  have HXX : Hid (Calls Tryz.prog 27 #[.pointer (some ⟨b, 0, none⟩), .slice ai ni ci, .slice a7 nz c7] w7 fun e w' => e = .returned (.tuple #[.int .i64 X, .nilIface]) ∧ Below w7.heap.size w7 w') := HEX.out w7 b c7 a7 (HIT.out _ HB27.out).1 (HIT.out _ HB27.out).2.2 HL7.out
  clear HEX HL7 HCH
  go_wp2_with fail
  refine (HFI.out w7 HB27.out).mono ?_
  rintro e w8 ⟨rfl, hw⟩
  have hw1 := hw.symm
  subst hw1
  clear hw
  go_wp2_with fail
  refine HXX.out.mono ?_
  rintro e w9 ⟨rfl, hb9⟩
  have HE := hid (HBK.out _ (HIT.out _ (HB27.out.trans (hb9.mono HB27.out.size))).2.2)
  have hXX : (X == X) = true := by simp
  clear hb9 HXX
  go_wp2_with fail
  go_ret
  exact ⟨by simp, HE.out⟩

set_option maxRecDepth 100000 in
set_option maxHeartbeats 2000000 in
theorem jtrue_no (p : Int) (cL nL ni ci : Nat) (wide : Int) (aL ai : Option Addr) (w : World) (hL : Laid w) (hno : ¬ GoodS p) (hp1 : -9223372036854775808 ≤ p) (hp2 : p ≤ 9223372036854775807) :
    Calls Tryz.prog 6 #[.int .i64 p, .agg #[.int .i64 wide, .slice aL nL cL], .slice ai ni ci] w fun e w' => e = .returned (.bool true) ∧ Below w.heap.size w w' := by
  obtain ⟨W1, hW1⟩ : ∃ W1, W1 = w.alloc (.cells #[.int .i64 wide, .slice aL nL cL] 69) := ⟨_, rfl⟩
  have hb1 : Below w.heap.size w W1 := by rw [hW1]; exact (Below.refl _ _).alloc (Nat.le_refl _) _
  have HSN := hid (sponge_no p W1 (hL.below hb1) hno hp1 hp2)
  have HB1 := hid hb1
  have HW1 := hid hW1
  clear hb1 hW1 hL hno hp1 hp2
  go_enter Tryz.func6, Tryz.ntmps6
  go_wp2_with fail
  rw [← HW1.out]
  refine HSN.out.mono ?_
  rintro e w1 ⟨rfl, hb1⟩
  have HE : Hid (Below w.heap.size w w1) := HB1.out.trans (hb1.mono HB1.out.size)
  clear hb1 HSN
  go_wp2_with fail
  go_ret
  exact ⟨rfl, HE.out⟩

theorem jtrue_walk (p : Int) (cL ci : Nat) (wide : Int) (aL ai : Option Addr) (lys : List (List GatZ)) (inputs : List Int) (w : World) (hL : Laid w) (hT : TabAt 2 Lib.deBruijn64tab w) (hp1 : -9223372036854775808 ≤ p) (hp2 : p ≤ 9223372036854775807) (hB : CirB lys) (hl : LstGG w.heap.size w aL cL lys) (hI : InL w ai ci inputs) :
    Calls Tryz.prog 6 #[.int .i64 p, .agg #[.int .i64 wide, .slice aL lys.length cL], .slice ai inputs.length ci] w fun e w' => e = .returned (.bool true) ∧ Below w.heap.size w w' := by
  by_cases hg : GoodS p
  · obtain ⟨⟨hq3, hq4, hqp⟩, h23⟩ := hg
    obtain ⟨q, rfl⟩ := Int.eq_ofNat_of_zero_le (show 0 ≤ p by omega)
    rw [Int.toNat_natCast] at hqp
    exact jtrue_good q cL ci wide aL ai lys inputs w hT (by omega) (by omega) hqp hB hl hI
  · exact jtrue_no p cL lys.length inputs.length ci wide aL ai w hL hg hp1 hp2

end Go.Proofs.YtpgnabmkfkcogaaGreatDoor
