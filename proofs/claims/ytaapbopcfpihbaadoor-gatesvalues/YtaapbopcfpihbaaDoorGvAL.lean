/- The law GatesValues: a part of its walk. The law GatesValues: its walk. -/
import Derived.Test.YtaapbopcfpihbaaDoorGvAK
import Derived.Test.YtaapbopcfpihbaaDoorJvC
namespace Go.Proofs.YtaapbopcfpihbaaDoor
open Go.RowKit

set_option maxRecDepth 100000 in
set_option maxHeartbeats 4000000 in
theorem jvalues_good (q i cL ci cz cx cy : Nat) (wide kind : Int) (aL ai az ax ay : Option Addr) (lys : List (List GatZ)) (inputs z x y : List Int) (w : World) (hL : Laid w) (hT : TabAt 2 Lib.deBruijn64tab w) (h3 : 3 ≤ q) (h4 : q ≤ 2147483647) (hpr : Num.Prime q) (hB : CirB lys) (hl : LstGG w.heap.size w aL cL lys) (hI : InL w ai ci inputs) (hz : InL w az cz z) (hx : InL w ax cx x) (hy : InL w ay cy y) (hF : flt wide lys = 0) (hi : i < lys.length) (hk : 0 ≤ kind ∧ kind < 2) (hs : z.length = bnn wide lys (i + 1) ∧ x.length = bnn wide lys i ∧ y.length = bnn wide lys i) :
    Calls Tryd.prog 3 #[.int .i64 (q : Int), .agg #[.int .i64 wide, .slice aL lys.length cL], .slice ai inputs.length ci, .int .i64 (i : Int), .int .i64 kind, .slice az z.length cz, .slice ax x.length cx, .slice ay y.length cy] w fun e w' => e = .returned (.bool true) ∧ Below w.heap.size w w' := by
  obtain ⟨W0, hW0⟩ : ∃ W0, W0 = w.alloc (.cells #[.int .i64 wide, .slice aL lys.length cL] 24) := ⟨_, rfl⟩
  obtain ⟨hb0, hs0, hz0⟩ := own_blk hW0
  obtain ⟨G, hG⟩ : ∃ G, G = w.heap.size := ⟨_, rfl⟩
  rw [← hG] at hs0
  have HC : Hid (∀ W, Below W0.heap.size W0 W → W.cell? ⟨G, 0, none⟩ = some (.int .i64 wide) ∧ W.cell? ⟨G, 1, none⟩ = some (.slice aL lys.length cL)) := fun W hW => by
    have e1 := (hW.block G (Array.getElem?_eq_some_iff.1 hs0).1).trans hs0
    exact ⟨by simp [World.cell?, e1], by simp [World.cell?, e1]⟩
  have HBK : Hid (∀ W, Below W0.heap.size W0 W → Below w.heap.size w W) := fun W hW => hb0.trans (hW.mono hb0.size)
  have HFY := hid (field_yes q W0 h3 h4 hpr)
  have HIT : Hid (∀ (b : Nat) (W1 W : World), W1.cell? ⟨b, 0, none⟩ = some (.int .i64 q) → Below W0.heap.size W0 W1 → Below W1.heap.size W1 W → InT q b W) := fun b W1 W h1 h2 h5 => by
    have hw := hb0.trans ((h2.trans (h5.mono h2.size)).mono hb0.size)
    exact ⟨⟨hpr, h3, h4, (h5.cell (p := ⟨b, 0, none⟩) (heap_lt h1)).trans h1⟩, tabu_below hT hw⟩
  have HVA : Hid (∀ (b : Nat) (W : World), InT q b W → Below W0.heap.size W0 W → Calls Tryd.prog 7 #[.pointer (some ⟨b, 0, none⟩), .agg #[.int .i64 wide, .slice aL lys.length cL], .slice ai inputs.length ci] W fun e w' => ∃ v, e = .returned (.tuple #[v, errz (vle wide lys inputs.length)]) ∧ OwnR W.heap.size w' v (gvr q wide lys inputs) ∧ Below W.heap.size W w') := fun b W h1 h2 => by
    have hw := hb0.trans (h2.mono hb0.size)
    exact gatesValues_any q b cL ci wide aL ai lys inputs W h1 hB (hl.step hw) ((hI.below hw).lst) hI.fit
  have HFL : Hid (∀ W, Below W0.heap.size W0 W → Calls Tryd.prog 8 #[.agg #[.int .i64 wide, .slice aL lys.length cL]] W fun e w' => e = .returned (.int .i64 (flt wide lys)) ∧ Below W.heap.size W w') := fun W h2 => rfault13_any cL wide aL lys W hB (hl.step (hb0.trans (h2.mono hb0.size)))
  have HTO : Hid (∀ (k : Int) W, Below W0.heap.size W0 W → Calls Tryd.prog 10 #[errz k, .int .i64 k] W fun x w' => x = .returned (.bool true) ∧ Below W.heap.size W w') := fun k W h2 => by
    have := told_any k k W (hL.below (hb0.trans (h2.mono hb0.size)))
    rw [beq_self_eq_true] at this
    exact this
  have HB0 := hid hb0
  have HWG := hid hW0
  have HG := hid hG
  have hlen := hB.len
  have hilen := hI.len
  obtain ⟨c0, c1⟩ := HC.out W0 (Below.refl _ _)
  have HFZ := hid (flt_zero hF)
  rw [hF] at HFL
  have hF1 := HFZ.out.1.1
  have hn8 := HFZ.out.1.2.1.2
  have HWD := hid (fun W => rwide13_any inputs.length W)
  have HWI : Hid (∀ (b : Nat) W, InT q b W → Below W0.heap.size W0 W → Calls Tryd.prog 13 #[.pointer (some ⟨b, 0, none⟩), .agg #[.int .i64 wide, .slice aL lys.length cL], .int .i64 (i : Int), .int .i64 kind, .slice az z.length cz, .slice ax x.length cx, .slice ay y.length cy] W fun e w' => e = .returned (.tuple #[.int .i64 (wrz q (lyt lys i) kind z x y), errz 0]) ∧ Below W.heap.size W w') := fun b W h1 h2 => by
    have hw := hb0.trans (h2.mono hb0.size)
    exact wireY_any q b i cL cz cx cy wide kind aL az ax ay lys z x y W hB (hl.step hw) h1 hF hi hk hs.1 hs.2.1 hs.2.2 hz.fit hx.fit hy.fit (hz.below hw).lst.row (hx.below hw).lst.row (hy.below hw).lst.row
  have HT3 := hid (HTO.out 0)

  have HW2 := hid (fun W => rwide13_any (lyt lys i).length W)
  rw [(HFZ.out.1.own hi).2] at HW2
  have HBN : Hid (∀ W, Below W0.heap.size W0 W → Calls Tryd.prog 14 #[.agg #[.int .i64 wide, .slice aL lys.length cL], .int .i64 (i : Int)] W fun e w' => e = .returned (.int .i64 (bnn wide lys i : Int)) ∧ Below W.heap.size W w') := fun W hW => by
    have := rbeneath_any i cL wide aL lys W hB (hl.step (hb0.trans (hW.mono hb0.size))) (by omega)
    rw [(HFZ.out.1.bn (i := i) (by omega)).1] at this
    exact this
  obtain ⟨bi, oi, ag, cg, haL, hbi, hci, hgi⟩ := (hl.step hb0).row i hi
  have HCI : Hid (∀ W, Below W0.heap.size W0 W → W.cell? ⟨bi, oi + i, none⟩ = some (.slice ag (lyt lys i).length cg)) := fun W hW => (hW.cell (p := ⟨bi, oi + i, none⟩) hbi).trans hci
  have k1 : ¬ (i : Int) < 0 := by omega
  have k2 : ¬ (lys.length : Int) ≤ (i : Int) := by omega
  have k3 : ¬ kind < 0 := by omega
  have k4 : ¬ 1 < kind := by omega
  have k5 : (i : Int) < (lys.length : Int) := by omega

  obtain ⟨z1, z2⟩ := HFZ.out.1.own hi
  obtain ⟨_, z4⟩ := HFZ.out.1.bn (i := i + 1) (by omega)
  obtain ⟨_, z5⟩ := HFZ.out.1.bn (i := i) (by omega)
  have HRW : Hid (∀ W, Below W0.heap.size W0 W → Calls Tryd.prog 15 #[.int .i64 (q : Int), .slice ag (lyt lys i).length cg, .int .i64 kind, .slice az z.length cz, .slice ax x.length cx, .slice ay y.length cy] W fun e w' => e = .returned (.int .i64 (wrz q (lyt lys i) kind z x y)) ∧ Below W.heap.size W w') := fun W h2 => by
    have hw := hb0.trans (h2.mono hb0.size)
    exact rwire13_any q cg cz cx cy kind ag az ax ay (lyt lys i) z x y W h3 h4 (by rw [z1]; exact pow_6 z4) (hgi.step h2) (by omega) (by omega) (by omega) (by rw [z1, hs.1]; exact Nat.le_refl _) (fun k hk' => by rw [hs.2.1, hs.2.2]; exact (HFZ.out.2 i hi k hk').2) hz.fit hx.fit hy.fit (hz.below hw).lst.row (hx.below hw).lst.row (hy.below hw).lst.row
  have s1' : ((z.length : Int) != (bnn wide lys (i + 1) : Int)) = false := by rw [hs.1]; simp
  have s2' : ((x.length : Int) != (bnn wide lys i : Int)) = false := by rw [hs.2.1]; simp
  have s3' : ((y.length : Int) != (bnn wide lys i : Int)) = false := by rw [hs.2.2]; simp
  generalize wrz q (lyt lys i) kind z x y = EE at *
  have hEE : (EE == EE) = true := beq_self_eq_true _
  by_cases hM : inputs.length = 2 ^ wide.toNat
  ·
    have hm2 : (wdz inputs.length != wide) = false := by rw [(wdz_wide hF1.1 hF1.2).2 hM]; simp
    have HVL : vle wide lys inputs.length = 0 := by unfold vle; rw [if_pos hF, if_pos hM]
    have HGR : Hid (gvr q wide lys inputs = gva q lys inputs (lys.length + 1)) := by unfold Hid gvr; rw [if_pos HVL]
    rw [HVL] at HVA
    have HTX := hid (HTO.out 0)
    have HRV : Hid (∀ W, Below W0.heap.size W0 W → Calls Tryd.prog 11 #[.int .i64 (q : Int), .agg #[.int .i64 wide, .slice aL lys.length cL], .slice ai inputs.length ci] W fun e w' => ∃ v, e = .returned v ∧ OwnR W.heap.size w' v (gva q lys inputs (lys.length + 1)) ∧ Below W.heap.size W w') := fun W h2 => by
      have hw := hb0.trans (h2.mono hb0.size)
      exact rvalues13_any q cL ci wide aL ai lys inputs W h3 h4 HFZ.out.1 HFZ.out.2 hM (hl.step hw) (hI.below hw).lst hI.fit
    have HSR : Hid (∀ (W : World) (B1 B2 : Nat) (a1 a2 : Option Addr) (c1 c2 : Nat), OwnR B1 W (.slice a1 (gva q lys inputs (lys.length + 1)).length c1) (gva q lys inputs (lys.length + 1)) → OwnR B2 W (.slice a2 (gva q lys inputs (lys.length + 1)).length c2) (gva q lys inputs (lys.length + 1)) → Calls Tryd.prog 12 #[.slice a1 (gva q lys inputs (lys.length + 1)).length c1, .slice a2 (gva q lys inputs (lys.length + 1)).length c2] W fun e w' => e = .returned (.bool true) ∧ Below W.heap.size W w') := fun W B1 B2 a1 a2 k1 k2 g1 g2 => same_gva h3 h4 HFZ.out.1 hM g1 g2
    generalize gva q lys inputs (lys.length + 1) = Y at *
    subst haL
    generalize bnn wide lys (i + 1) = ow at *
    generalize bnn wide lys i = bl at *
    generalize (lyt lys i).length = M at *

    generalize lys.length = n at *
    generalize z.length = nz at *
    generalize x.length = nx at *
    generalize y.length = ny at *
    generalize gvr q wide lys inputs = Y0 at *
    generalize wdz inputs.length = wd at *
    generalize inputs.length = m at *
    clear hL hT hpr hB hl hI hW0 hb0 hs0 hz0 hG HVL hF HTO hM HFZ hF1 hs hi hk hbi hci hgi z1 z2 z4 z5 hz hx hy
    go_enter Tryd.func3, Tryd.ntmps3
    go_wp2_with fail
    rw [← HWG.out, ← HG.out]
    clear HWG
    refine HFY.out.mono ?_
    rintro e w1 ⟨rfl, hc1, hb1, hlt1⟩
    have HI1 := hid (fun W h => HIT.out W0.heap.size w1 W hc1 hb1 h)
    have HB1 := hid hb1
    obtain ⟨d0, d1⟩ := HC.out w1 hb1
    generalize W0.heap.size = b at HI1 ⊢
    clear hc1 hb1 hlt1 c0 c1
    go_wp2_with fail
    refine (HVA.out b w1 (HI1.out w1 (Below.refl _ _)) HB1.out).mono ?_
    rintro e w2 ⟨v2, rfl, ho2, hb2⟩
    obtain ⟨a2, c2, hv2, _⟩ := ho2.lst
    rw [HGR.out] at ho2 hv2
    subst hv2
    have HO2 := hid ho2
    have HB12 := hid hb2
    have HB2 : Hid (Below W0.heap.size W0 w2) := HB1.out.trans (hb2.mono HB1.out.size)
    obtain ⟨d0, d1⟩ := HC.out w2 HB2.out
    clear ho2 hb2
    go_wp2_with fail
    refine (HFL.out w2 HB2.out).mono ?_
    rintro e w3 ⟨rfl, hb3⟩
    have HO3 := hid (HO2.out.keep hb3)
    have HB13 := hid (HB12.out.trans (hb3.mono HB12.out.size))
    have HB3 : Hid (Below W0.heap.size W0 w3) := HB2.out.trans (hb3.mono HB2.out.size)
    obtain ⟨d0, d1⟩ := HC.out w3 HB3.out
    clear hb3 HO2 HB12 HB2
    go_wp2_with fail
    refine (HWD.out w3).mono ?_
    rintro e w9 ⟨rfl, hw⟩
    have hw1 := hw.symm
    subst hw1
    clear hw
    go_wp2_with fail
    refine (HTX.out w3 HB3.out).mono ?_
    rintro e w4 ⟨rfl, hb4⟩
    have HO4 := hid (HO3.out.keep hb4)
    have HB4 : Hid (Below W0.heap.size W0 w4) := HB3.out.trans (hb4.mono HB3.out.size)
    have HB14 : Hid (Below w1.heap.size w1 w4) := HB13.out.trans (hb4.mono HB13.out.size)
    obtain ⟨d0, d1⟩ := HC.out w4 HB4.out
    clear hb4 HO3 HB13
    go_wp2_with fail
    refine (HRV.out w4 HB4.out).mono ?_
    rintro e w5 ⟨v5, rfl, ho5, hb5⟩
    obtain ⟨a5, c5, hv5, _⟩ := ho5.lst
    subst hv5
    have HRS := hid (HSR.out w5 _ _ _ _ _ _ (HO4.out.keep hb5) ho5)
    have HB5 : Hid (Below W0.heap.size W0 w5) := HB4.out.trans (hb5.mono HB4.out.size)
    have HB15 : Hid (Below w1.heap.size w1 w5) := HB14.out.trans (hb5.mono HB14.out.size)
    clear hb5 ho5 HO4 HB14
    go_wp2_with fail
    refine HRS.out.mono ?_
    rintro e w7 ⟨rfl, hb7⟩
    have HB7 : Hid (Below W0.heap.size W0 w7) := HB5.out.trans (hb7.mono HB5.out.size)
    have HB17 : Hid (Below w1.heap.size w1 w7) := HB15.out.trans (hb7.mono HB15.out.size)
    obtain ⟨d0, d1⟩ := HC.out w7 HB7.out
    clear hb7 HB15
    go_wp2_with fail
    refine (HWI.out b w7 (HI1.out w7 HB17.out) HB7.out).mono ?_
    rintro e w8 ⟨rfl, hb8⟩
    have HB8 : Hid (Below W0.heap.size W0 w8) := HB7.out.trans (hb8.mono HB7.out.size)
    obtain ⟨d0, d1⟩ := HC.out w8 HB8.out
    clear hb8

    have hx8 := HCI.out w8 HB8.out
    go_wp2_with fail
    refine (HW2.out w8).mono ?_
    rintro e w9 ⟨rfl, hw⟩
    have hw1 := hw.symm
    subst hw1
    clear hw
    go_wp2_with fail
    refine (HBN.out w8 HB8.out).mono ?_
    rintro e w10 ⟨rfl, hb10⟩
    have HB10 : Hid (Below W0.heap.size W0 w10) := HB8.out.trans (hb10.mono HB8.out.size)
    obtain ⟨d0, d1⟩ := HC.out w10 HB10.out
    have hx10 := HCI.out w10 HB10.out
    clear hb10 hx8

    go_wp2_with fail
    refine (HT3.out w10 HB10.out).mono ?_
    rintro e w11 ⟨rfl, hb11⟩
    have HB11 : Hid (Below W0.heap.size W0 w11) := HB10.out.trans (hb11.mono HB10.out.size)
    obtain ⟨d0, d1⟩ := HC.out w11 HB11.out
    have hx11 := HCI.out w11 HB11.out
    clear hb11 hx10
    go_wp2_with fail
    refine (HRW.out w11 HB11.out).mono ?_
    rintro e w12 ⟨rfl, hb12⟩
    have HE := hid (HBK.out _ (HB11.out.trans (hb12.mono HB11.out.size)))
    clear hb12
    go_wp2_with fail
    go_ret
    exact ⟨by simp, HE.out⟩
  ·
    have hm2 : (wdz inputs.length != wide) = true := by rw [bne_iff_ne]; intro h; exact hM ((wdz_wide hF1.1 hF1.2).1 h)
    have HVL : vle wide lys inputs.length = 2 := by unfold vle; rw [if_pos hF, if_neg hM]
    have HGR : Hid (gvr q wide lys inputs = []) := by unfold Hid gvr; rw [HVL]; rfl
    rw [HVL] at HVA
    have HTX := hid (HTO.out 2)
    subst haL
    generalize bnn wide lys (i + 1) = ow at *
    generalize bnn wide lys i = bl at *
    generalize (lyt lys i).length = M at *

    generalize lys.length = n at *
    generalize z.length = nz at *
    generalize x.length = nx at *
    generalize y.length = ny at *
    generalize gvr q wide lys inputs = Y0 at *
    generalize wdz inputs.length = wd at *
    generalize inputs.length = m at *
    clear hL hT hpr hB hl hI hW0 hb0 hs0 hz0 hG HVL hF HTO hM HFZ hF1 hs hi hk hbi hci hgi z1 z2 z4 z5 hz hx hy
    go_enter Tryd.func3, Tryd.ntmps3
    go_wp2_with fail
    rw [← HWG.out, ← HG.out]
    clear HWG
    refine HFY.out.mono ?_
    rintro e w1 ⟨rfl, hc1, hb1, hlt1⟩
    have HI1 := hid (fun W h => HIT.out W0.heap.size w1 W hc1 hb1 h)
    have HB1 := hid hb1
    obtain ⟨d0, d1⟩ := HC.out w1 hb1
    generalize W0.heap.size = b at HI1 ⊢
    clear hc1 hb1 hlt1 c0 c1
    go_wp2_with fail
    refine (HVA.out b w1 (HI1.out w1 (Below.refl _ _)) HB1.out).mono ?_
    rintro e w2 ⟨v2, rfl, ho2, hb2⟩
    obtain ⟨a2, c2, hv2, _⟩ := ho2.lst
    rw [HGR.out] at ho2 hv2
    subst hv2
    have HO2 := hid ho2
    have HB12 := hid hb2
    have HB2 : Hid (Below W0.heap.size W0 w2) := HB1.out.trans (hb2.mono HB1.out.size)
    obtain ⟨d0, d1⟩ := HC.out w2 HB2.out
    clear ho2 hb2
    go_wp2_with fail
    refine (HFL.out w2 HB2.out).mono ?_
    rintro e w3 ⟨rfl, hb3⟩
    have HO3 := hid (HO2.out.keep hb3)
    have HB13 := hid (HB12.out.trans (hb3.mono HB12.out.size))
    have HB3 : Hid (Below W0.heap.size W0 w3) := HB2.out.trans (hb3.mono HB2.out.size)
    obtain ⟨d0, d1⟩ := HC.out w3 HB3.out
    clear hb3 HO2 HB12 HB2
    go_wp2_with fail
    refine (HWD.out w3).mono ?_
    rintro e w9 ⟨rfl, hw⟩
    have hw1 := hw.symm
    subst hw1
    clear hw
    go_wp2_with fail
    refine (HTX.out w3 HB3.out).mono ?_
    rintro e w7 ⟨rfl, hb4⟩
    have HB7 : Hid (Below W0.heap.size W0 w7) := HB3.out.trans (hb4.mono HB3.out.size)
    have HB17 : Hid (Below w1.heap.size w1 w7) := HB13.out.trans (hb4.mono HB13.out.size)
    obtain ⟨d0, d1⟩ := HC.out w7 HB7.out
    clear hb4 HO3 HB13
    go_wp2_with fail
    refine (HWI.out b w7 (HI1.out w7 HB17.out) HB7.out).mono ?_
    rintro e w8 ⟨rfl, hb8⟩
    have HB8 : Hid (Below W0.heap.size W0 w8) := HB7.out.trans (hb8.mono HB7.out.size)
    obtain ⟨d0, d1⟩ := HC.out w8 HB8.out
    clear hb8

    have hx8 := HCI.out w8 HB8.out
    go_wp2_with fail
    refine (HW2.out w8).mono ?_
    rintro e w9 ⟨rfl, hw⟩
    have hw1 := hw.symm
    subst hw1
    clear hw
    go_wp2_with fail
    refine (HBN.out w8 HB8.out).mono ?_
    rintro e w10 ⟨rfl, hb10⟩
    have HB10 : Hid (Below W0.heap.size W0 w10) := HB8.out.trans (hb10.mono HB8.out.size)
    obtain ⟨d0, d1⟩ := HC.out w10 HB10.out
    have hx10 := HCI.out w10 HB10.out
    clear hb10 hx8

    go_wp2_with fail
    refine (HT3.out w10 HB10.out).mono ?_
    rintro e w11 ⟨rfl, hb11⟩
    have HB11 : Hid (Below W0.heap.size W0 w11) := HB10.out.trans (hb11.mono HB10.out.size)
    obtain ⟨d0, d1⟩ := HC.out w11 HB11.out
    have hx11 := HCI.out w11 HB11.out
    clear hb11 hx10
    go_wp2_with fail
    refine (HRW.out w11 HB11.out).mono ?_
    rintro e w12 ⟨rfl, hb12⟩
    have HE := hid (HBK.out _ (HB11.out.trans (hb12.mono HB11.out.size)))
    clear hb12
    go_wp2_with fail
    go_ret
    exact ⟨by simp, HE.out⟩

end Go.Proofs.YtaapbopcfpihbaaDoor

namespace Go.Proofs.YtaapbopcfpihbaaDoor
open Go.RowKit

set_option maxRecDepth 100000 in
set_option maxHeartbeats 1000000 in
theorem jvalues_no (p : Int) (cL ci cz cx cy n m nz nx ny : Nat) (wide layer kind : Int) (aL ai az ax ay : Option Addr) (w : World) (hL : Laid w) (hno : ¬ okPrime p) (h1 : -9223372036854775808 ≤ p) (h2 : p ≤ 9223372036854775807) :
    Calls Tryd.prog 3 #[.int .i64 p, .agg #[.int .i64 wide, .slice aL n cL], .slice ai m ci, .int .i64 layer, .int .i64 kind, .slice az nz cz, .slice ax nx cx, .slice ay ny cy] w fun e w' => e = .returned (.bool true) ∧ Below w.heap.size w w' := by
  obtain ⟨W0, hW0⟩ : ∃ W0, W0 = w.alloc (.cells #[.int .i64 wide, .slice aL n cL] 24) := ⟨_, rfl⟩
  obtain ⟨hb0, hs0, hz0⟩ := own_blk hW0
  have HF := hid (field_no p W0 (hL.below hb0) hno h1 h2)
  have HB0 := hid hb0
  clear hL hno hb0 hs0 hz0 h1 h2
  go_enter Tryd.func3, Tryd.ntmps3
  go_wp2_with fail
  rw [← hW0]
  clear hW0
  refine HF.out.mono ?_
  rintro e w1 ⟨rfl, hb1⟩
  have HE : Hid (Below w.heap.size w w1) := HB0.out.trans (hb1.mono HB0.out.size)
  clear hb1
  go_wp2_with fail
  go_ret
  exact ⟨rfl, HE.out⟩

theorem jvalues_walk (p : Int) (cL ci cz cx cy : Nat) (wide layer kind : Int) (aL ai az ax ay : Option Addr) (lys : List (List GatZ)) (inputs z x y : List Int) (w : World) (hL : Laid w) (hT : TabAt 2 Lib.deBruijn64tab w) (h1 : -9223372036854775808 ≤ p) (h2 : p ≤ 9223372036854775807) (hB : CirB lys) (hl : LstGG w.heap.size w aL cL lys) (hI : InL w ai ci inputs) (hz : InL w az cz z) (hx : InL w ax cx x) (hy : InL w ay cy y) :
    Calls Tryd.prog 3 #[.int .i64 p, .agg #[.int .i64 wide, .slice aL lys.length cL], .slice ai inputs.length ci, .int .i64 layer, .int .i64 kind, .slice az z.length cz, .slice ax x.length cx, .slice ay y.length cy] w fun e w' => e = .returned (.bool true) ∧ Below w.heap.size w w' := by
  by_cases hok : okPrime p
  · obtain ⟨q, rfl⟩ := Int.eq_ofNat_of_zero_le (show 0 ≤ p by have := hok.1; omega)
    obtain ⟨hq3, hq4, hqp⟩ := hok
    rw [Int.toNat_natCast] at hqp
    have h3 : 3 ≤ q := by omega
    have h4 : q ≤ 2147483647 := by omega
    by_cases hF : flt wide lys = 0
    · by_cases hr : (0 ≤ layer ∧ layer < (lys.length : Int)) ∧ (0 ≤ kind ∧ kind < 2)
      · obtain ⟨i, rfl⟩ := Int.eq_ofNat_of_zero_le hr.1.1
        have hi : i < lys.length := by have := hr.1.2; omega
        by_cases hs : z.length = bnn wide lys (i + 1) ∧ x.length = bnn wide lys i ∧ y.length = bnn wide lys i
        · exact jvalues_good q i cL ci cz cx cy wide kind aL ai az ax ay lys inputs z x y w hL hT h3 h4 hqp hB hl hI hz hx hy hF hi hr.2 hs
        · exact jvalues_sizes q i cL ci cz cx cy wide kind aL ai az ax ay lys inputs z x y w hL hT h3 h4 hqp hB hl hI hF hi hr.2 hs
      · exact jvalues_range q cL ci cz cx cy wide layer kind aL ai az ax ay lys inputs z x y w hL hT h3 h4 hqp hB hl hI hF hr
    · exact jvalues_fault q cL ci cz cx cy wide layer kind aL ai az ax ay lys inputs z x y w hL hT h3 h4 hqp hB hl hI hF
  · exact jvalues_no p cL ci cz cx cy _ _ _ _ _ wide layer kind aL ai az ax ay w hL hok h1 h2

end Go.Proofs.YtaapbopcfpihbaaDoor
