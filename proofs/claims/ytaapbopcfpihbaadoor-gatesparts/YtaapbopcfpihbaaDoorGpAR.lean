/- The law GatesParts: its walk, where the circuit, the inputs and the layer are right. The law GatesParts: its walk. -/
import Derived.Test.YtaapbopcfpihbaaDoorJpA
namespace Go.Proofs.YtaapbopcfpihbaaDoor
open Go.RowKit

set_option maxRecDepth 100000 in
set_option maxHeartbeats 4000000 in
theorem jparts_sizes (q i cL ci cz cx : Nat) (wide : Int) (aL ai az ax : Option Addr) (lys : List (List GatZ)) (inputs z xs : List Int) (w : World) (hL : Laid w) (hT : TabAt 2 Lib.deBruijn64tab w) (h3 : 3 ≤ q) (h4 : q ≤ 2147483647) (hpr : Num.Prime q) (hB : CirB lys) (hl : LstGG w.heap.size w aL cL lys) (hI : InL w ai ci inputs) (hF : flt wide lys = 0) (hM : inputs.length = 2 ^ wide.toNat) (hi : i < lys.length) (hs : ¬ (z.length = bnn wide lys (i + 1) ∧ xs.length ≤ 2 * bnn wide lys i)) :
    Calls Tryd.prog 4 #[.int .i64 (q : Int), .agg #[.int .i64 wide, .slice aL lys.length cL], .int .i64 (i : Int), .slice ai inputs.length ci, .slice az z.length cz, .slice ax xs.length cx] w fun e w' => e = .returned (.bool true) ∧ Below w.heap.size w w' := by
  obtain ⟨W0, hW0⟩ : ∃ W0, W0 = w.alloc (.cells #[.int .i64 wide, .slice aL lys.length cL] 24) := ⟨_, rfl⟩
  obtain ⟨hb0, hs0, hz0⟩ := own_blk hW0
  obtain ⟨G, hG⟩ : ∃ G, G = w.heap.size := ⟨_, rfl⟩
  rw [← hG] at hs0
  have HC : Hid (∀ W, Below W0.heap.size W0 W → W.cell? ⟨G, 0, none⟩ = some (.int .i64 wide) ∧ W.cell? ⟨G, 1, none⟩ = some (.slice aL lys.length cL)) := fun W hW => by
    have e1 := (hW.block G (Array.getElem?_eq_some_iff.1 hs0).1).trans hs0
    exact ⟨by simp [World.cell?, e1], by simp [World.cell?, e1]⟩
  have HBK : Hid (∀ W, Below W0.heap.size W0 W → Below w.heap.size w W) := fun W hW => hb0.trans (hW.mono hb0.size)
  have HFY := hid (field_yes q W0 h3 h4 hpr)
  have HIT : Hid (∀ (b : Nat) (W1 W : World), W1.cell? ⟨b, 0, none⟩ = some (.int .i64 q) → Below W0.heap.size W0 W1 → Below W1.heap.size W1 W → InT q b W) := fun b W1 W h1 h2 h5 => by
    have hw := hb0.trans ((h2.trans (h5.mono h2.size)).mono hb0.size)
    exact ⟨⟨hpr, h3, h4, (h5.cell (p := ⟨b, 0, none⟩) (heap_lt h1)).trans h1⟩, tabu_below hT hw⟩
  have HFL : Hid (∀ W, Below W0.heap.size W0 W → Calls Tryd.prog 8 #[.agg #[.int .i64 wide, .slice aL lys.length cL]] W fun e w' => e = .returned (.int .i64 (flt wide lys)) ∧ Below W.heap.size W w') := fun W h2 => rfault13_any cL wide aL lys W hB (hl.step (hb0.trans (h2.mono hb0.size)))
  have HTO : Hid (∀ (k : Int) W, Below W0.heap.size W0 W → Calls Tryd.prog 10 #[errz k, .int .i64 k] W fun x w' => x = .returned (.bool true) ∧ Below W.heap.size W w') := fun k W h2 => by
    have := told_any k k W (hL.below (hb0.trans (h2.mono hb0.size)))
    rw [beq_self_eq_true] at this
    exact this
  have HB0 := hid hb0
  have HWG := hid hW0
  have HG := hid hG
  have hlen := hB.len
  have hilen := hI.len
  obtain ⟨c0, c1⟩ := HC.out W0 (Below.refl _ _)
  have HFZ := hid (flt_zero hF)
  rw [hF] at HFL
  have hF1 := HFZ.out.1.1
  have hn8 := HFZ.out.1.2.1.2
  have HWD := hid (fun W => rwide13_any inputs.length W)

  have hm2 : (wdz inputs.length != wide) = false := by rw [(wdz_wide hF1.1 hF1.2).2 hM]; simp
  have HVL : vle wide lys inputs.length = 0 := by unfold vle; rw [if_pos hF, if_pos hM]

  have HW2 := hid (fun W => rwide13_any (lyt lys i).length W)
  rw [(HFZ.out.1.own hi).2] at HW2
  have HBN : Hid (∀ W, Below W0.heap.size W0 W → Calls Tryd.prog 14 #[.agg #[.int .i64 wide, .slice aL lys.length cL], .int .i64 (i : Int)] W fun e w' => e = .returned (.int .i64 (bnn wide lys i : Int)) ∧ Below W.heap.size W w') := fun W hW => by
    have := rbeneath_any i cL wide aL lys W hB (hl.step (hb0.trans (hW.mono hb0.size))) (by omega)
    rw [(HFZ.out.1.bn (i := i) (by omega)).1] at this
    exact this
  obtain ⟨bi, oi, ag, cg, haL, hbi, hci, hgi⟩ := (hl.step hb0).row i hi
  have HCI : Hid (∀ W, Below W0.heap.size W0 W → W.cell? ⟨bi, oi + i, none⟩ = some (.slice ag (lyt lys i).length cg)) := fun W hW => (hW.cell (p := ⟨bi, oi + i, none⟩) hbi).trans hci
  obtain ⟨z1, z2⟩ := HFZ.out.1.own hi
  obtain ⟨_, z4⟩ := HFZ.out.1.bn (i := i + 1) (by omega)
  obtain ⟨_, z5⟩ := HFZ.out.1.bn (i := i) (by omega)
  have k1 : ¬ (i : Int) < 0 := by omega
  have k2 : ¬ (lys.length : Int) ≤ (i : Int) := by omega
  have k5 : (i : Int) < (lys.length : Int) := by omega
  have hw2 : IntKind.i64.wrap (2 * (bnn wide lys i : Int)) = 2 * (bnn wide lys i : Int) := by rw [IntKind.wrap_i64]; omega
  have HPA : Hid (∀ (b : Nat) W, InT q b W → Below W0.heap.size W0 W → Calls Tryd.prog 16 #[.pointer (some ⟨b, 0, none⟩), .agg #[.int .i64 wide, .slice aL lys.length cL], .int .i64 (i : Int), .slice ai inputs.length ci, .slice az z.length cz, .slice ax xs.length cx] W fun e w' => e = .returned (.tuple #[.int .i64 0, errz 2]) ∧ Below W.heap.size W w') := fun b W h1 h2 => by
    have hw := hb0.trans (h2.mono hb0.size)
    exact partS_any q b i z.length xs.length cL ci cz cx wide aL ai az ax lys inputs W h1 hB (hl.step hw) (hI.below hw).lst hI.fit HVL hi hs

  have HTX := hid (HTO.out 2)

  subst haL
  generalize bnn wide lys (i + 1) = ow at *
  generalize bnn wide lys i = bl at *
  generalize (lyt lys i).length = M at *

  generalize wdz inputs.length = wd at *
  generalize inputs.length = m at *

  generalize lys.length = n at *
  generalize z.length = nz at *
  generalize xs.length = nx at *
  clear hL hT hpr hB hl hI hW0 hb0 hs0 hz0 hG hF HTO HVL hM HFZ hF1 hi hbi hci hgi z1 z2 z4 z5
  by_cases s1 : nz = ow
  · have s1' : ((nz : Int) != (ow : Int)) = false := by rw [s1]; simp
    have s2' : 2 * (bl : Int) < (nx : Int) := by
      have : ¬ nx ≤ 2 * bl := fun h => hs ⟨s1, h⟩
      omega
    clear s1 hs
    go_enter Tryd.func4, Tryd.ntmps4
    go_wp2_with fail
    rw [← HWG.out, ← HG.out]
    clear HWG
    refine HFY.out.mono ?_
    rintro e w1 ⟨rfl, hc1, hb1, hlt1⟩
    have HI1 := hid (HIT.out W0.heap.size w1 w1 hc1 hb1 (Below.refl _ _))
    clear HIT
    have HB1 := hid hb1
    obtain ⟨d0, d1⟩ := HC.out w1 hb1
    generalize W0.heap.size = b at HI1 ⊢
    clear hc1 hb1 hlt1 c0 c1
    go_wp2_with fail
    refine (HPA.out b w1 HI1.out HB1.out).mono ?_
    rintro e w2 ⟨rfl, hb2⟩
    have HB2 : Hid (Below W0.heap.size W0 w2) := HB1.out.trans (hb2.mono HB1.out.size)
    obtain ⟨d0, d1⟩ := HC.out w2 HB2.out
    clear hb2
    go_wp2_with fail
    refine (HFL.out w2 HB2.out).mono ?_
    rintro e w3 ⟨rfl, hb3⟩
    have HB3 : Hid (Below W0.heap.size W0 w3) := HB2.out.trans (hb3.mono HB2.out.size)
    obtain ⟨d0, d1⟩ := HC.out w3 HB3.out
    clear hb3 HB2
    go_wp2_with fail

    refine (HWD.out w3).mono ?_
    rintro e w9 ⟨rfl, hw⟩
    have hw1 := hw.symm
    subst hw1
    clear hw

    have hx3 := HCI.out w3 HB3.out
    go_wp2_with fail
    refine (HW2.out w3).mono ?_
    rintro e w9 ⟨rfl, hw⟩
    have hw1 := hw.symm
    subst hw1
    clear hw
    go_wp2_with fail
    refine (HBN.out w3 HB3.out).mono ?_
    rintro e w10 ⟨rfl, hb10⟩
    have HB10 : Hid (Below W0.heap.size W0 w10) := HB3.out.trans (hb10.mono HB3.out.size)
    obtain ⟨d0, d1⟩ := HC.out w10 HB10.out
    have hx10 := HCI.out w10 HB10.out
    clear hb10 hx3
    go_wp2_with fail

    refine (HTX.out w10 HB10.out).mono ?_
    rintro e w4 ⟨rfl, hb4⟩
    have HE := hid (HBK.out _ (HB10.out.trans (hb4.mono HB10.out.size)))
    clear hb4
    go_wp2_with fail
    go_ret
    exact ⟨rfl, HE.out⟩
  · have s1' : ((nz : Int) != (ow : Int)) = true := by rw [bne_iff_ne]; omega
    clear s1 hs
    go_enter Tryd.func4, Tryd.ntmps4
    go_wp2_with fail
    rw [← HWG.out, ← HG.out]
    clear HWG
    refine HFY.out.mono ?_
    rintro e w1 ⟨rfl, hc1, hb1, hlt1⟩
    have HI1 := hid (HIT.out W0.heap.size w1 w1 hc1 hb1 (Below.refl _ _))
    clear HIT
    have HB1 := hid hb1
    obtain ⟨d0, d1⟩ := HC.out w1 hb1
    generalize W0.heap.size = b at HI1 ⊢
    clear hc1 hb1 hlt1 c0 c1
    go_wp2_with fail
    refine (HPA.out b w1 HI1.out HB1.out).mono ?_
    rintro e w2 ⟨rfl, hb2⟩
    have HB2 : Hid (Below W0.heap.size W0 w2) := HB1.out.trans (hb2.mono HB1.out.size)
    obtain ⟨d0, d1⟩ := HC.out w2 HB2.out
    clear hb2
    go_wp2_with fail
    refine (HFL.out w2 HB2.out).mono ?_
    rintro e w3 ⟨rfl, hb3⟩
    have HB3 : Hid (Below W0.heap.size W0 w3) := HB2.out.trans (hb3.mono HB2.out.size)
    obtain ⟨d0, d1⟩ := HC.out w3 HB3.out
    clear hb3 HB2
    go_wp2_with fail

    refine (HWD.out w3).mono ?_
    rintro e w9 ⟨rfl, hw⟩
    have hw1 := hw.symm
    subst hw1
    clear hw

    have hx3 := HCI.out w3 HB3.out
    go_wp2_with fail
    refine (HW2.out w3).mono ?_
    rintro e w9 ⟨rfl, hw⟩
    have hw1 := hw.symm
    subst hw1
    clear hw
    go_wp2_with fail
    refine (HBN.out w3 HB3.out).mono ?_
    rintro e w10 ⟨rfl, hb10⟩
    have HB10 : Hid (Below W0.heap.size W0 w10) := HB3.out.trans (hb10.mono HB3.out.size)
    obtain ⟨d0, d1⟩ := HC.out w10 HB10.out
    have hx10 := HCI.out w10 HB10.out
    clear hb10 hx3
    go_wp2_with fail

    refine (HTX.out w10 HB10.out).mono ?_
    rintro e w4 ⟨rfl, hb4⟩
    have HE := hid (HBK.out _ (HB10.out.trans (hb4.mono HB10.out.size)))
    clear hb4
    go_wp2_with fail
    go_ret
    exact ⟨rfl, HE.out⟩

set_option maxRecDepth 100000 in
set_option maxHeartbeats 4000000 in
theorem jparts_good (q i cL ci cz cx : Nat) (wide : Int) (aL ai az ax : Option Addr) (lys : List (List GatZ)) (inputs z xs : List Int) (w : World) (hL : Laid w) (hT : TabAt 2 Lib.deBruijn64tab w) (h3 : 3 ≤ q) (h4 : q ≤ 2147483647) (hpr : Num.Prime q) (hB : CirB lys) (hl : LstGG w.heap.size w aL cL lys) (hI : InL w ai ci inputs) (hz : InL w az cz z) (hx : InL w ax cx xs) (hF : flt wide lys = 0) (hM : inputs.length = 2 ^ wide.toNat) (hi : i < lys.length) (hs : z.length = bnn wide lys (i + 1) ∧ xs.length ≤ 2 * bnn wide lys i) :
    Calls Tryd.prog 4 #[.int .i64 (q : Int), .agg #[.int .i64 wide, .slice aL lys.length cL], .int .i64 (i : Int), .slice ai inputs.length ci, .slice az z.length cz, .slice ax xs.length cx] w fun e w' => e = .returned (.bool true) ∧ Below w.heap.size w w' := by
  obtain ⟨W0, hW0⟩ : ∃ W0, W0 = w.alloc (.cells #[.int .i64 wide, .slice aL lys.length cL] 24) := ⟨_, rfl⟩
  obtain ⟨hb0, hs0, hz0⟩ := own_blk hW0
  obtain ⟨G, hG⟩ : ∃ G, G = w.heap.size := ⟨_, rfl⟩
  rw [← hG] at hs0
  have HC : Hid (∀ W, Below W0.heap.size W0 W → W.cell? ⟨G, 0, none⟩ = some (.int .i64 wide) ∧ W.cell? ⟨G, 1, none⟩ = some (.slice aL lys.length cL)) := fun W hW => by
    have e1 := (hW.block G (Array.getElem?_eq_some_iff.1 hs0).1).trans hs0
    exact ⟨by simp [World.cell?, e1], by simp [World.cell?, e1]⟩
  have HBK : Hid (∀ W, Below W0.heap.size W0 W → Below w.heap.size w W) := fun W hW => hb0.trans (hW.mono hb0.size)
  have HFY := hid (field_yes q W0 h3 h4 hpr)
  have HIT : Hid (∀ (b : Nat) (W1 W : World), W1.cell? ⟨b, 0, none⟩ = some (.int .i64 q) → Below W0.heap.size W0 W1 → Below W1.heap.size W1 W → InT q b W) := fun b W1 W h1 h2 h5 => by
    have hw := hb0.trans ((h2.trans (h5.mono h2.size)).mono hb0.size)
    exact ⟨⟨hpr, h3, h4, (h5.cell (p := ⟨b, 0, none⟩) (heap_lt h1)).trans h1⟩, tabu_below hT hw⟩
  have HFL : Hid (∀ W, Below W0.heap.size W0 W → Calls Tryd.prog 8 #[.agg #[.int .i64 wide, .slice aL lys.length cL]] W fun e w' => e = .returned (.int .i64 (flt wide lys)) ∧ Below W.heap.size W w') := fun W h2 => rfault13_any cL wide aL lys W hB (hl.step (hb0.trans (h2.mono hb0.size)))
  have HTO : Hid (∀ (k : Int) W, Below W0.heap.size W0 W → Calls Tryd.prog 10 #[errz k, .int .i64 k] W fun x w' => x = .returned (.bool true) ∧ Below W.heap.size W w') := fun k W h2 => by
    have := told_any k k W (hL.below (hb0.trans (h2.mono hb0.size)))
    rw [beq_self_eq_true] at this
    exact this
  have HB0 := hid hb0
  have HWG := hid hW0
  have HG := hid hG
  have hlen := hB.len
  have hilen := hI.len
  obtain ⟨c0, c1⟩ := HC.out W0 (Below.refl _ _)
  have HFZ := hid (flt_zero hF)
  rw [hF] at HFL
  have hF1 := HFZ.out.1.1
  have hn8 := HFZ.out.1.2.1.2
  have HWD := hid (fun W => rwide13_any inputs.length W)

  have hm2 : (wdz inputs.length != wide) = false := by rw [(wdz_wide hF1.1 hF1.2).2 hM]; simp
  have HVL : vle wide lys inputs.length = 0 := by unfold vle; rw [if_pos hF, if_pos hM]

  have HW2 := hid (fun W => rwide13_any (lyt lys i).length W)
  rw [(HFZ.out.1.own hi).2] at HW2
  have HBN : Hid (∀ W, Below W0.heap.size W0 W → Calls Tryd.prog 14 #[.agg #[.int .i64 wide, .slice aL lys.length cL], .int .i64 (i : Int)] W fun e w' => e = .returned (.int .i64 (bnn wide lys i : Int)) ∧ Below W.heap.size W w') := fun W hW => by
    have := rbeneath_any i cL wide aL lys W hB (hl.step (hb0.trans (hW.mono hb0.size))) (by omega)
    rw [(HFZ.out.1.bn (i := i) (by omega)).1] at this
    exact this
  obtain ⟨bi, oi, ag, cg, haL, hbi, hci, hgi⟩ := (hl.step hb0).row i hi
  have HCI : Hid (∀ W, Below W0.heap.size W0 W → W.cell? ⟨bi, oi + i, none⟩ = some (.slice ag (lyt lys i).length cg)) := fun W hW => (hW.cell (p := ⟨bi, oi + i, none⟩) hbi).trans hci
  obtain ⟨z1, z2⟩ := HFZ.out.1.own hi
  obtain ⟨_, z4⟩ := HFZ.out.1.bn (i := i + 1) (by omega)
  obtain ⟨_, z5⟩ := HFZ.out.1.bn (i := i) (by omega)
  have k1 : ¬ (i : Int) < 0 := by omega
  have k2 : ¬ (lys.length : Int) ≤ (i : Int) := by omega
  have k5 : (i : Int) < (lys.length : Int) := by omega
  have hw2 : IntKind.i64.wrap (2 * (bnn wide lys i : Int)) = 2 * (bnn wide lys i : Int) := by rw [IntKind.wrap_i64]; omega
  have HPA : Hid (∀ (b : Nat) W, InT q b W → Below W0.heap.size W0 W → Calls Tryd.prog 16 #[.pointer (some ⟨b, 0, none⟩), .agg #[.int .i64 wide, .slice aL lys.length cL], .int .i64 (i : Int), .slice ai inputs.length ci, .slice az z.length cz, .slice ax xs.length cx] W fun e w' => e = .returned (.tuple #[.int .i64 (ptz q (lyt lys i) (gvs q lys inputs i) (bnn wide lys i) z xs), errz 0]) ∧ Below W.heap.size W w') := fun b W h1 h2 => by
    have hw := hb0.trans (h2.mono hb0.size)
    exact partY_any q b i cL ci cz cx wide aL ai az ax lys inputs z xs W h1 hB (hl.step hw) (hI.below hw).lst hI.fit HVL hi hs.1 hs.2 hz.fit hx.fit (hz.below hw).lst.row (hx.below hw).lst

  have HTX := hid (HTO.out 0)
  have HRV : Hid (∀ W, Below W0.heap.size W0 W → Calls Tryd.prog 11 #[.int .i64 (q : Int), .agg #[.int .i64 wide, .slice aL lys.length cL], .slice ai inputs.length ci] W fun e w' => ∃ v, e = .returned v ∧ OwnR W.heap.size w' v (gva q lys inputs (lys.length + 1)) ∧ Below W.heap.size W w') := fun W h2 => by
    have hw := hb0.trans (h2.mono hb0.size)
    exact rvalues13_any q cL ci wide aL ai lys inputs W h3 h4 HFZ.out.1 HFZ.out.2 hM (hl.step hw) (hI.below hw).lst hI.fit
  have HRP : Hid (∀ W ar cr, Below W0.heap.size W0 W → RowB W.heap.size W ar (gvs q lys inputs i) → Calls Tryd.prog 17 #[.int .i64 (q : Int), .slice ag (lyt lys i).length cg, .slice ar (gvs q lys inputs i).length cr, .int .i64 (bnn wide lys i : Int), .slice az z.length cz, .slice ax xs.length cx] W fun e w' => e = .returned (.int .i64 (ptz q (lyt lys i) (gvs q lys inputs i) (bnn wide lys i) z xs)) ∧ Below W.heap.size W w') := fun W ar cr h2 hr => by
    have hw := hb0.trans (h2.mono hb0.size)
    have h64 : ((2 ^ (bnz wide lys i).toNat : Nat) : Int) ≤ 64 := Int.ofNat_le.2 (pow_6 z5)
    exact rpart13_any q (bnn wide lys i) cg cr cz cx ag ar az ax (lyt lys i) (gvs q lys inputs i) z xs W h3 h4 z5 (gvs_len HFZ.out.1 hM (by omega)) (by rw [z1]; exact pow_6 z4) (hgi.step h2) (fun k hk' => by
      obtain ⟨g1, ⟨g2, g3⟩, g4, g5⟩ := HFZ.out.2 i hi k hk'
      exact ⟨by omega, ⟨g2, Int.le_trans (Int.le_of_lt g3) h64⟩, g4, Int.le_trans (Int.le_of_lt g5) h64⟩) (by omega) (by rw [z1, hs.1]; exact Nat.le_refl _) hs.2 (gvs_fits h3 h4 _ _ _) hz.fit hx.fit hr (hz.below hw).lst.row (hx.below hw).lst.row
  have HYL : Hid ((gva q lys inputs (lys.length + 1)).length = lys.length + 1) := gva_len _ _ _ _
  have HYR : Hid (rat (gva q lys inputs (lys.length + 1)) i = gvs q lys inputs i) := gva_rat (by omega)
  have s1' : ((z.length : Int) != (bnn wide lys (i + 1) : Int)) = false := by rw [hs.1]; simp
  have s2' : ¬ 2 * (bnn wide lys i : Int) < (xs.length : Int) := by have := hs.2; omega
  have k6 : (i : Int) < (lys.length : Int) + 1 := by omega
  generalize ptz q (lyt lys i) (gvs q lys inputs i) (bnn wide lys i) z xs = EE at *
  have hEE : (EE == EE) = true := beq_self_eq_true _
  generalize gvs q lys inputs i = T at *
  generalize gva q lys inputs (lys.length + 1) = Y at *

  subst haL
  generalize bnn wide lys (i + 1) = ow at *
  generalize bnn wide lys i = bl at *
  generalize (lyt lys i).length = M at *

  generalize wdz inputs.length = wd at *
  generalize inputs.length = m at *

  generalize lys.length = n at *
  generalize z.length = nz at *
  generalize xs.length = nx at *
  clear hL hT hpr hB hl hI hW0 hb0 hs0 hz0 hG hF HTO HVL hM HFZ hF1 hbi hci hgi z1 z2 z4 z5 hs hz hx

  go_enter Tryd.func4, Tryd.ntmps4
  go_wp2_with fail
  rw [← HWG.out, ← HG.out]
  clear HWG
  refine HFY.out.mono ?_
  rintro e w1 ⟨rfl, hc1, hb1, hlt1⟩
  have HI1 := hid (HIT.out W0.heap.size w1 w1 hc1 hb1 (Below.refl _ _))
  clear HIT
  have HB1 := hid hb1
  obtain ⟨d0, d1⟩ := HC.out w1 hb1
  generalize W0.heap.size = b at HI1 ⊢
  clear hc1 hb1 hlt1 c0 c1
  go_wp2_with fail
  refine (HPA.out b w1 HI1.out HB1.out).mono ?_
  rintro e w2 ⟨rfl, hb2⟩
  have HB2 : Hid (Below W0.heap.size W0 w2) := HB1.out.trans (hb2.mono HB1.out.size)
  obtain ⟨d0, d1⟩ := HC.out w2 HB2.out
  clear hb2
  go_wp2_with fail
  refine (HFL.out w2 HB2.out).mono ?_
  rintro e w3 ⟨rfl, hb3⟩
  have HB3 : Hid (Below W0.heap.size W0 w3) := HB2.out.trans (hb3.mono HB2.out.size)
  obtain ⟨d0, d1⟩ := HC.out w3 HB3.out
  clear hb3 HB2
  go_wp2_with fail

  refine (HWD.out w3).mono ?_
  rintro e w9 ⟨rfl, hw⟩
  have hw1 := hw.symm
  subst hw1
  clear hw

  have hx3 := HCI.out w3 HB3.out
  go_wp2_with fail
  refine (HW2.out w3).mono ?_
  rintro e w9 ⟨rfl, hw⟩
  have hw1 := hw.symm
  subst hw1
  clear hw
  go_wp2_with fail
  refine (HBN.out w3 HB3.out).mono ?_
  rintro e w10 ⟨rfl, hb10⟩
  have HB10 : Hid (Below W0.heap.size W0 w10) := HB3.out.trans (hb10.mono HB3.out.size)
  obtain ⟨d0, d1⟩ := HC.out w10 HB10.out
  have hx10 := HCI.out w10 HB10.out
  clear hb10 hx3
  go_wp2_with fail

  refine (HTX.out w10 HB10.out).mono ?_
  rintro e w11 ⟨rfl, hb11⟩
  have HB11 : Hid (Below W0.heap.size W0 w11) := HB10.out.trans (hb11.mono HB10.out.size)
  obtain ⟨d0, d1⟩ := HC.out w11 HB11.out
  clear hb11 hx10
  go_wp2_with fail
  refine (HRV.out w11 HB11.out).mono ?_
  rintro e w12 ⟨v5, rfl, ho5, hb12⟩
  obtain ⟨av, cv, rfl, hLR⟩ := ho5.lst
  obtain ⟨b2, o2, ar, cr, rfl, hb2, hr1, hr2⟩ := hLR.row i (by rw [HYL.out]; omega)
  rw [HYR.out] at hr1 hr2
  rw [HYL.out]
  have HB12 : Hid (Below W0.heap.size W0 w12) := HB11.out.trans (hb12.mono HB11.out.size)
  obtain ⟨d0, d1⟩ := HC.out w12 HB12.out
  have hx12 := HCI.out w12 HB12.out
  have HRX := hid (fun W (h : Below w12.heap.size w12 W) => HRP.out W ar cr (HB12.out.trans (h.mono HB12.out.size)) ((hr2.row.below h).mono h.size))
  generalize T.length = NT at *
  clear hb12 hLR hr2 ho5

  have HBD : Hid (Below w12.heap.size w12 w12.drew) := (Below.refl _ _).drew
  have HSB : Hid (∀ W, Below w12.heap.size w12 W → W.cell? ⟨G, 1, none⟩ = some (.slice (some ⟨bi, oi, none⟩) n cL) ∧ W.cell? ⟨bi, oi + i, none⟩ = some (.slice ag M cg) ∧ W.cell? ⟨b2, o2 + i, none⟩ = some (.slice ar NT cr)) := fun W hW => ⟨(HC.out W (HB12.out.trans (hW.mono HB12.out.size))).2, HCI.out W (HB12.out.trans (hW.mono HB12.out.size)), (hW.cell (p := ⟨b2, o2 + i, none⟩) hb2).trans hr1⟩
  clear hb2 hr1 d0 d1 hx12
  go_wp2_with fail
  refine wp_region_held_drew (S := fun W => W.cell? ⟨G, 1, none⟩ = some (.slice (some ⟨bi, oi, none⟩) n cL) ∧ W.cell? ⟨bi, oi + i, none⟩ = some (.slice ag M cg) ∧ W.cell? ⟨b2, o2 + i, none⟩ = some (.slice ar NT cr)) (by kernel_rfl) (HSB.out _ HBD.out) (fun hHeld => ?_)
  refine wpAnyH_takeU (i := 0) (v := .int .i64 (q : Int)) rfl (by kernel_rfl) (by kernel_rfl) (by kernel_rfl) (fun _ _ _ h => h) (by rfl) (fun W hC => by go_simp) hHeld ?_
  simp only [Act.put, List.setIfInBounds_toArray, List.set_cons_zero, List.set_cons_succ]
  refine wpAnyH_takeU (i := 1) (v := .pointer (some ⟨G, 1, none⟩)) rfl (by kernel_rfl) (by kernel_rfl) (by kernel_rfl) (fun _ _ _ h => h) (by rfl) (fun W hC => by go_simp) hHeld ?_
  simp only [Act.put, List.setIfInBounds_toArray, List.set_cons_zero, List.set_cons_succ]
  refine wpAnyH_takeU (i := 2) (v := .slice (some ⟨bi, oi, none⟩) n cL) rfl (by kernel_rfl) (by kernel_rfl) (by kernel_rfl) (fun _ _ _ h => h) (by rfl) (fun W hC => by (obtain ⟨x1, x2, x3⟩ := hC); go_simp) hHeld ?_
  simp only [Act.put, List.setIfInBounds_toArray, List.set_cons_zero, List.set_cons_succ]
  refine wpAnyH_takeU (i := 3) (v := .int .i64 (i : Int)) rfl (by kernel_rfl) (by kernel_rfl) (by kernel_rfl) (fun _ _ _ h => h) (by rfl) (fun W hC => by go_simp) hHeld ?_
  simp only [Act.put, List.setIfInBounds_toArray, List.set_cons_zero, List.set_cons_succ]
  refine wpAnyH_takeU (i := 4) (v := .pointer (some ⟨bi, oi + i, none⟩)) rfl (by kernel_rfl) (by kernel_rfl) (by kernel_rfl) (fun _ _ _ h => h) (by rfl) (fun W hC => by go_simp) hHeld ?_
  simp only [Act.put, List.setIfInBounds_toArray, List.set_cons_zero, List.set_cons_succ]
  refine wpAnyH_takeU (i := 5) (v := .slice ag M cg) rfl (by kernel_rfl) (by kernel_rfl) (by kernel_rfl) (fun _ _ _ h => h) (by rfl) (fun W hC => by (obtain ⟨x1, x2, x3⟩ := hC); go_simp) hHeld ?_
  simp only [Act.put, List.setIfInBounds_toArray, List.set_cons_zero, List.set_cons_succ]
  refine wpAnyH_takeU (i := 6) (v := .slice (some ⟨b2, o2, none⟩) (n + 1) cv) rfl (by kernel_rfl) (by kernel_rfl) (by kernel_rfl) (fun _ _ _ h => h) (by rfl) (fun W hC => by go_simp) hHeld ?_
  simp only [Act.put, List.setIfInBounds_toArray, List.set_cons_zero, List.set_cons_succ]
  refine wpAnyH_takeU (i := 7) (v := .int .i64 (i : Int)) rfl (by kernel_rfl) (by kernel_rfl) (by kernel_rfl) (fun _ _ _ h => h) (by rfl) (fun W hC => by go_simp) hHeld ?_
  simp only [Act.put, List.setIfInBounds_toArray, List.set_cons_zero, List.set_cons_succ]
  refine wpAnyH_takeU (i := 8) (v := .pointer (some ⟨b2, o2 + i, none⟩)) rfl (by kernel_rfl) (by kernel_rfl) (by kernel_rfl) (fun _ _ _ h => h) (by rfl) (fun W hC => by go_simp) hHeld ?_
  simp only [Act.put, List.setIfInBounds_toArray, List.set_cons_zero, List.set_cons_succ]
  refine wpAnyH_takeU (i := 9) (v := .slice ar NT cr) rfl (by kernel_rfl) (by kernel_rfl) (by kernel_rfl) (fun _ _ _ h => h) (by rfl) (fun W hC => by (obtain ⟨x1, x2, x3⟩ := hC); go_simp) hHeld ?_
  simp only [Act.put, List.setIfInBounds_toArray, List.set_cons_zero, List.set_cons_succ]
  refine wpAnyH_takeU (i := 10) (v := .int .i64 (bl : Int)) rfl (by kernel_rfl) (by kernel_rfl) (by kernel_rfl) (fun _ _ _ h => h) (by rfl) (fun W hC => by go_simp) hHeld ?_
  simp only [Act.put, List.setIfInBounds_toArray, List.set_cons_zero, List.set_cons_succ]
  refine wpAnyH_takeU (i := 11) (v := .slice az nz cz) rfl (by kernel_rfl) (by kernel_rfl) (by kernel_rfl) (fun _ _ _ h => h) (by rfl) (fun W hC => by go_simp) hHeld ?_
  simp only [Act.put, List.setIfInBounds_toArray, List.set_cons_zero, List.set_cons_succ]
  refine wpAnyH_takeU (i := 12) (v := .slice ax nx cx) rfl (by kernel_rfl) (by kernel_rfl) (by kernel_rfl) (fun _ _ _ h => h) (by rfl) (fun W hC => by go_simp) hHeld ?_
  simp only [Act.put, List.setIfInBounds_toArray, List.set_cons_zero, List.set_cons_succ]
  refine wpAnyH_ready (rs := [13]) (by kernel_rfl) (by simp) ?_
  refine AllReadyH.consU rfl (fun K' hK' => ?_) AllReadyH.nil
  go_simp
  refine (HRX.out w12.drew HBD.out).mono ?_
  rintro e w13 ⟨rfl, hb13⟩
  have HB13 := hid (HBD.out.trans (hb13.mono HBD.out.size))
  have hS13 := HSB.out w13 HB13.out
  clear hb13
  refine hK'.out _ _ (hS13) (fun hHeld => ?_)
  clear hK' K'
  refine wpAnyH_ready (rs := [14]) (by kernel_rfl) (by simp) ?_
  refine AllReadyH.consU rfl (fun K' hK' => ?_) AllReadyH.nil
  go_simp
  refine hK'.out _ _ (hS13) (fun hHeld => ?_)
  clear hK' K'
  refine wpAnyH_done (by kernel_rfl) ?_ _

  have HE := hid (HBK.out _ (HB12.out.trans (HB13.out.mono HB12.out.size)))
  go_wp2_with fail
  go_ret
  exact ⟨by simp, HE.out⟩

end Go.Proofs.YtaapbopcfpihbaaDoor

namespace Go.Proofs.YtaapbopcfpihbaaDoor
open Go.RowKit

set_option maxRecDepth 100000 in
set_option maxHeartbeats 1000000 in
theorem jparts_no (p : Int) (cL ci cz cx n m nz nx : Nat) (wide layer : Int) (aL ai az ax : Option Addr) (w : World) (hL : Laid w) (hno : ¬ okPrime p) (h1 : -9223372036854775808 ≤ p) (h2 : p ≤ 9223372036854775807) :
    Calls Tryd.prog 4 #[.int .i64 p, .agg #[.int .i64 wide, .slice aL n cL], .int .i64 layer, .slice ai m ci, .slice az nz cz, .slice ax nx cx] w fun e w' => e = .returned (.bool true) ∧ Below w.heap.size w w' := by
  obtain ⟨W0, hW0⟩ : ∃ W0, W0 = w.alloc (.cells #[.int .i64 wide, .slice aL n cL] 24) := ⟨_, rfl⟩
  obtain ⟨hb0, hs0, hz0⟩ := own_blk hW0
  have HF := hid (field_no p W0 (hL.below hb0) hno h1 h2)
  have HB0 := hid hb0
  clear hL hno hb0 hs0 hz0 h1 h2
  go_enter Tryd.func4, Tryd.ntmps4
  go_wp2_with fail
  rw [← hW0]
  clear hW0
  refine HF.out.mono ?_
  rintro e w1 ⟨rfl, hb1⟩
  have HE : Hid (Below w.heap.size w w1) := HB0.out.trans (hb1.mono HB0.out.size)
  clear hb1
  go_wp2_with fail
  go_ret
  exact ⟨rfl, HE.out⟩

theorem jparts_walk (p : Int) (cL ci cz cx : Nat) (wide layer : Int) (aL ai az ax : Option Addr) (lys : List (List GatZ)) (inputs z xs : List Int) (w : World) (hL : Laid w) (hT : TabAt 2 Lib.deBruijn64tab w) (h1 : -9223372036854775808 ≤ p) (h2 : p ≤ 9223372036854775807) (hB : CirB lys) (hl : LstGG w.heap.size w aL cL lys) (hI : InL w ai ci inputs) (hz : InL w az cz z) (hx : InL w ax cx xs) :
    Calls Tryd.prog 4 #[.int .i64 p, .agg #[.int .i64 wide, .slice aL lys.length cL], .int .i64 layer, .slice ai inputs.length ci, .slice az z.length cz, .slice ax xs.length cx] w fun e w' => e = .returned (.bool true) ∧ Below w.heap.size w w' := by
  by_cases hok : okPrime p
  · obtain ⟨q, rfl⟩ := Int.eq_ofNat_of_zero_le (show 0 ≤ p by have := hok.1; omega)
    obtain ⟨hq3, hq4, hqp⟩ := hok
    rw [Int.toNat_natCast] at hqp
    have h3 : 3 ≤ q := by omega
    have h4 : q ≤ 2147483647 := by omega
    by_cases hF : flt wide lys = 0
    · by_cases hM : inputs.length = 2 ^ wide.toNat
      · by_cases hr : 0 ≤ layer ∧ layer < (lys.length : Int)
        · obtain ⟨i, rfl⟩ := Int.eq_ofNat_of_zero_le hr.1
          have hi : i < lys.length := by have := hr.2; omega
          by_cases hs : z.length = bnn wide lys (i + 1) ∧ xs.length ≤ 2 * bnn wide lys i
          · exact jparts_good q i cL ci cz cx wide aL ai az ax lys inputs z xs w hL hT h3 h4 hqp hB hl hI hz hx hF hM hi hs
          · exact jparts_sizes q i cL ci cz cx wide aL ai az ax lys inputs z xs w hL hT h3 h4 hqp hB hl hI hF hM hi hs
        · exact jparts_range q cL ci cz cx wide layer aL ai az ax lys inputs z xs w hL hT h3 h4 hqp hB hl hI hF hM hr
      · exact jparts_inputs q cL ci cz cx wide layer aL ai az ax lys inputs z xs w hL hT h3 h4 hqp hB hl hI hF hM
    · exact jparts_fault q cL ci cz cx wide layer aL ai az ax lys inputs z xs w hL hT h3 h4 hqp hB hl hI hF
  · exact jparts_no p cL ci cz cx _ _ _ _ wide layer aL ai az ax w hL hok h1 h2

end Go.Proofs.YtaapbopcfpihbaaDoor
