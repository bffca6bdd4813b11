/- The law GatesParts: its walk, where something is wrong. -/
import Derived.Test.YtaapbopcfpihbaaDoorGpAO
import Derived.Test.YtaapbopcfpihbaaDoorGtS
import Derived.Test.YtaapbopcfpihbaaDoorGrF
namespace Go.Proofs.YtaapbopcfpihbaaDoor
open Go.RowKit

set_option maxRecDepth 100000 in
set_option maxHeartbeats 4000000 in
theorem jparts_fault (q cL ci cz cx : Nat) (wide layer : Int) (aL ai az ax : Option Addr) (lys : List (List GatZ)) (inputs z xs : List Int) (w : World) (hL : Laid w) (hT : TabAt 2 Lib.deBruijn64tab w) (h3 : 3 ≤ q) (h4 : q ≤ 2147483647) (hpr : Num.Prime q) (hB : CirB lys) (hl : LstGG w.heap.size w aL cL lys) (hI : InL w ai ci inputs) (hF : flt wide lys ≠ 0) :
    Calls Tryd.prog 4 #[.int .i64 (q : Int), .agg #[.int .i64 wide, .slice aL lys.length cL], .int .i64 layer, .slice ai inputs.length ci, .slice az z.length cz, .slice ax xs.length cx] w fun e w' => e = .returned (.bool true) ∧ Below w.heap.size w w' := by
  obtain ⟨W0, hW0⟩ : ∃ W0, W0 = w.alloc (.cells #[.int .i64 wide, .slice aL lys.length cL] 24) := ⟨_, rfl⟩
  obtain ⟨hb0, hs0, hz0⟩ := own_blk hW0
  obtain ⟨G, hG⟩ : ∃ G, G = w.heap.size := ⟨_, rfl⟩
  rw [← hG] at hs0
  have HC : Hid (∀ W, Below W0.heap.size W0 W → W.cell? ⟨G, 0, none⟩ = some (.int .i64 wide) ∧ W.cell? ⟨G, 1, none⟩ = some (.slice aL lys.length cL)) := fun W hW => by
    have e1 := (hW.block G (Array.getElem?_eq_some_iff.1 hs0).1).trans hs0
    exact ⟨by simp [World.cell?, e1], by simp [World.cell?, e1]⟩
  have HBK : Hid (∀ W, Below W0.heap.size W0 W → Below w.heap.size w W) := fun W hW => hb0.trans (hW.mono hb0.size)
  have HFY := hid (field_yes q W0 h3 h4 hpr)
  have HIT : Hid (∀ (b : Nat) (W1 W : World), W1.cell? ⟨b, 0, none⟩ = some (.int .i64 q) → Below W0.heap.size W0 W1 → Below W1.heap.size W1 W → InT q b W) := fun b W1 W h1 h2 h5 => by
    have hw := hb0.trans ((h2.trans (h5.mono h2.size)).mono hb0.size)
    exact ⟨⟨hpr, h3, h4, (h5.cell (p := ⟨b, 0, none⟩) (heap_lt h1)).trans h1⟩, tabu_below hT hw⟩
  have HFL : Hid (∀ W, Below W0.heap.size W0 W → Calls Tryd.prog 8 #[.agg #[.int .i64 wide, .slice aL lys.length cL]] W fun e w' => e = .returned (.int .i64 (flt wide lys)) ∧ Below W.heap.size W w') := fun W h2 => rfault13_any cL wide aL lys W hB (hl.step (hb0.trans (h2.mono hb0.size)))
  have HTO : Hid (∀ (k : Int) W, Below W0.heap.size W0 W → Calls Tryd.prog 10 #[errz k, .int .i64 k] W fun x w' => x = .returned (.bool true) ∧ Below W.heap.size W w') := fun k W h2 => by
    have := told_any k k W (hL.below (hb0.trans (h2.mono hb0.size)))
    rw [beq_self_eq_true] at this
    exact this
  have HB0 := hid hb0
  have HWG := hid hW0
  have HG := hid hG
  have hlen := hB.len
  have hilen := hI.len
  obtain ⟨c0, c1⟩ := HC.out W0 (Below.refl _ _)
  have HVL : vle wide lys inputs.length = flt wide lys := by unfold vle; rw [if_neg hF]
  have HPA : Hid (∀ (b : Nat) W, InT q b W → Below W0.heap.size W0 W → Calls Tryd.prog 16 #[.pointer (some ⟨b, 0, none⟩), .agg #[.int .i64 wide, .slice aL lys.length cL], .int .i64 layer, .slice ai inputs.length ci, .slice az z.length cz, .slice ax xs.length cx] W fun e w' => e = .returned (.tuple #[.int .i64 0, errz (flt wide lys)]) ∧ Below W.heap.size W w') := fun b W h1 h2 => by
    have hw := hb0.trans (h2.mono hb0.size)
    rw [← HVL]
    exact partF_any q b z.length xs.length cL ci cz cx wide layer aL ai az ax lys inputs W h1 hB (hl.step hw) (hI.below hw).lst hI.fit (by rw [HVL]; exact hF)

  have hF1 : (flt wide lys == 0) = false := by rw [beq_eq_false_iff_ne]; exact hF
  have hF2 : (flt wide lys != 0) = true := by rw [bne_iff_ne]; exact hF
  have HTX := hid (HTO.out (flt wide lys))
  generalize flt wide lys = V at *
  generalize inputs.length = m at *

  generalize lys.length = n at *
  generalize z.length = nz at *
  generalize xs.length = nx at *
  clear hL hT hpr hB hl hI hW0 hb0 hs0 hz0 hG hF HTO HVL

  go_enter Tryd.func4, Tryd.ntmps4
  go_wp2_with fail
  rw [← HWG.out, ← HG.out]
  clear HWG
  refine HFY.out.mono ?_
  rintro e w1 ⟨rfl, hc1, hb1, hlt1⟩
  have HI1 := hid (HIT.out W0.heap.size w1 w1 hc1 hb1 (Below.refl _ _))
  clear HIT
  have HB1 := hid hb1
  obtain ⟨d0, d1⟩ := HC.out w1 hb1
  generalize W0.heap.size = b at HI1 ⊢
  clear hc1 hb1 hlt1 c0 c1
  go_wp2_with fail
  refine (HPA.out b w1 HI1.out HB1.out).mono ?_
  rintro e w2 ⟨rfl, hb2⟩
  have HB2 : Hid (Below W0.heap.size W0 w2) := HB1.out.trans (hb2.mono HB1.out.size)
  obtain ⟨d0, d1⟩ := HC.out w2 HB2.out
  clear hb2
  go_wp2_with fail
  refine (HFL.out w2 HB2.out).mono ?_
  rintro e w3 ⟨rfl, hb3⟩
  have HB3 : Hid (Below W0.heap.size W0 w3) := HB2.out.trans (hb3.mono HB2.out.size)
  obtain ⟨d0, d1⟩ := HC.out w3 HB3.out
  clear hb3 HB2
  go_wp2_with fail

  refine (HTX.out w3 HB3.out).mono ?_
  rintro e w4 ⟨rfl, hb4⟩
  have HE := hid (HBK.out _ (HB3.out.trans (hb4.mono HB3.out.size)))
  clear hb4
  go_wp2_with fail
  go_ret
  exact ⟨rfl, HE.out⟩

set_option maxRecDepth 100000 in
set_option maxHeartbeats 4000000 in
theorem jparts_inputs (q cL ci cz cx : Nat) (wide layer : Int) (aL ai az ax : Option Addr) (lys : List (List GatZ)) (inputs z xs : List Int) (w : World) (hL : Laid w) (hT : TabAt 2 Lib.deBruijn64tab w) (h3 : 3 ≤ q) (h4 : q ≤ 2147483647) (hpr : Num.Prime q) (hB : CirB lys) (hl : LstGG w.heap.size w aL cL lys) (hI : InL w ai ci inputs) (hF : flt wide lys = 0) (hM : ¬ inputs.length = 2 ^ wide.toNat) :
    Calls Tryd.prog 4 #[.int .i64 (q : Int), .agg #[.int .i64 wide, .slice aL lys.length cL], .int .i64 layer, .slice ai inputs.length ci, .slice az z.length cz, .slice ax xs.length cx] w fun e w' => e = .returned (.bool true) ∧ Below w.heap.size w w' := by
  obtain ⟨W0, hW0⟩ : ∃ W0, W0 = w.alloc (.cells #[.int .i64 wide, .slice aL lys.length cL] 24) := ⟨_, rfl⟩
  obtain ⟨hb0, hs0, hz0⟩ := own_blk hW0
  obtain ⟨G, hG⟩ : ∃ G, G = w.heap.size := ⟨_, rfl⟩
  rw [← hG] at hs0
  have HC : Hid (∀ W, Below W0.heap.size W0 W → W.cell? ⟨G, 0, none⟩ = some (.int .i64 wide) ∧ W.cell? ⟨G, 1, none⟩ = some (.slice aL lys.length cL)) := fun W hW => by
    have e1 := (hW.block G (Array.getElem?_eq_some_iff.1 hs0).1).trans hs0
    exact ⟨by simp [World.cell?, e1], by simp [World.cell?, e1]⟩
  have HBK : Hid (∀ W, Below W0.heap.size W0 W → Below w.heap.size w W) := fun W hW => hb0.trans (hW.mono hb0.size)
  have HFY := hid (field_yes q W0 h3 h4 hpr)
  have HIT : Hid (∀ (b : Nat) (W1 W : World), W1.cell? ⟨b, 0, none⟩ = some (.int .i64 q) → Below W0.heap.size W0 W1 → Below W1.heap.size W1 W → InT q b W) := fun b W1 W h1 h2 h5 => by
    have hw := hb0.trans ((h2.trans (h5.mono h2.size)).mono hb0.size)
    exact ⟨⟨hpr, h3, h4, (h5.cell (p := ⟨b, 0, none⟩) (heap_lt h1)).trans h1⟩, tabu_below hT hw⟩
  have HFL : Hid (∀ W, Below W0.heap.size W0 W → Calls Tryd.prog 8 #[.agg #[.int .i64 wide, .slice aL lys.length cL]] W fun e w' => e = .returned (.int .i64 (flt wide lys)) ∧ Below W.heap.size W w') := fun W h2 => rfault13_any cL wide aL lys W hB (hl.step (hb0.trans (h2.mono hb0.size)))
  have HTO : Hid (∀ (k : Int) W, Below W0.heap.size W0 W → Calls Tryd.prog 10 #[errz k, .int .i64 k] W fun x w' => x = .returned (.bool true) ∧ Below W.heap.size W w') := fun k W h2 => by
    have := told_any k k W (hL.below (hb0.trans (h2.mono hb0.size)))
    rw [beq_self_eq_true] at this
    exact this
  have HB0 := hid hb0
  have HWG := hid hW0
  have HG := hid hG
  have hlen := hB.len
  have hilen := hI.len
  obtain ⟨c0, c1⟩ := HC.out W0 (Below.refl _ _)
  have HFZ := hid (flt_zero hF)
  rw [hF] at HFL
  have hF1 := HFZ.out.1.1
  have hn8 := HFZ.out.1.2.1.2
  have HWD := hid (fun W => rwide13_any inputs.length W)

  have hm2 : (wdz inputs.length != wide) = true := by rw [bne_iff_ne]; intro h; exact hM ((wdz_wide hF1.1 hF1.2).1 h)
  have HVL : vle wide lys inputs.length = 2 := by unfold vle; rw [if_pos hF, if_neg hM]
  have HPA : Hid (∀ (b : Nat) W, InT q b W → Below W0.heap.size W0 W → Calls Tryd.prog 16 #[.pointer (some ⟨b, 0, none⟩), .agg #[.int .i64 wide, .slice aL lys.length cL], .int .i64 layer, .slice ai inputs.length ci, .slice az z.length cz, .slice ax xs.length cx] W fun e w' => e = .returned (.tuple #[.int .i64 0, errz 2]) ∧ Below W.heap.size W w') := fun b W h1 h2 => by
    have hw := hb0.trans (h2.mono hb0.size)
    have h := partF_any q b z.length xs.length cL ci cz cx wide layer aL ai az ax lys inputs W h1 hB (hl.step hw) (hI.below hw).lst hI.fit (by rw [HVL]; decide)
    rwa [HVL] at h

  have HTX := hid (HTO.out 2)

  generalize wdz inputs.length = wd at *
  generalize inputs.length = m at *

  generalize lys.length = n at *
  generalize z.length = nz at *
  generalize xs.length = nx at *
  clear hL hT hpr hB hl hI hW0 hb0 hs0 hz0 hG hF HTO HVL hM HFZ hF1

  go_enter Tryd.func4, Tryd.ntmps4
  go_wp2_with fail
  rw [← HWG.out, ← HG.out]
  clear HWG
  refine HFY.out.mono ?_
  rintro e w1 ⟨rfl, hc1, hb1, hlt1⟩
  have HI1 := hid (HIT.out W0.heap.size w1 w1 hc1 hb1 (Below.refl _ _))
  clear HIT
  have HB1 := hid hb1
  obtain ⟨d0, d1⟩ := HC.out w1 hb1
  generalize W0.heap.size = b at HI1 ⊢
  clear hc1 hb1 hlt1 c0 c1
  go_wp2_with fail
  refine (HPA.out b w1 HI1.out HB1.out).mono ?_
  rintro e w2 ⟨rfl, hb2⟩
  have HB2 : Hid (Below W0.heap.size W0 w2) := HB1.out.trans (hb2.mono HB1.out.size)
  obtain ⟨d0, d1⟩ := HC.out w2 HB2.out
  clear hb2
  go_wp2_with fail
  refine (HFL.out w2 HB2.out).mono ?_
  rintro e w3 ⟨rfl, hb3⟩
  have HB3 : Hid (Below W0.heap.size W0 w3) := HB2.out.trans (hb3.mono HB2.out.size)
  obtain ⟨d0, d1⟩ := HC.out w3 HB3.out
  clear hb3 HB2
  go_wp2_with fail

  refine (HWD.out w3).mono ?_
  rintro e w9 ⟨rfl, hw⟩
  have hw1 := hw.symm
  subst hw1
  clear hw
  go_wp2_with fail

  refine (HTX.out w3 HB3.out).mono ?_
  rintro e w4 ⟨rfl, hb4⟩
  have HE := hid (HBK.out _ (HB3.out.trans (hb4.mono HB3.out.size)))
  clear hb4
  go_wp2_with fail
  go_ret
  exact ⟨rfl, HE.out⟩

set_option maxRecDepth 100000 in
set_option maxHeartbeats 4000000 in
theorem jparts_range (q cL ci cz cx : Nat) (wide layer : Int) (aL ai az ax : Option Addr) (lys : List (List GatZ)) (inputs z xs : List Int) (w : World) (hL : Laid w) (hT : TabAt 2 Lib.deBruijn64tab w) (h3 : 3 ≤ q) (h4 : q ≤ 2147483647) (hpr : Num.Prime q) (hB : CirB lys) (hl : LstGG w.heap.size w aL cL lys) (hI : InL w ai ci inputs) (hF : flt wide lys = 0) (hM : inputs.length = 2 ^ wide.toNat) (hr : ¬ (0 ≤ layer ∧ layer < (lys.length : Int))) :
    Calls Tryd.prog 4 #[.int .i64 (q : Int), .agg #[.int .i64 wide, .slice aL lys.length cL], .int .i64 layer, .slice ai inputs.length ci, .slice az z.length cz, .slice ax xs.length cx] w fun e w' => e = .returned (.bool true) ∧ Below w.heap.size w w' := by
  obtain ⟨W0, hW0⟩ : ∃ W0, W0 = w.alloc (.cells #[.int .i64 wide, .slice aL lys.length cL] 24) := ⟨_, rfl⟩
  obtain ⟨hb0, hs0, hz0⟩ := own_blk hW0
  obtain ⟨G, hG⟩ : ∃ G, G = w.heap.size := ⟨_, rfl⟩
  rw [← hG] at hs0
  have HC : Hid (∀ W, Below W0.heap.size W0 W → W.cell? ⟨G, 0, none⟩ = some (.int .i64 wide) ∧ W.cell? ⟨G, 1, none⟩ = some (.slice aL lys.length cL)) := fun W hW => by
    have e1 := (hW.block G (Array.getElem?_eq_some_iff.1 hs0).1).trans hs0
    exact ⟨by simp [World.cell?, e1], by simp [World.cell?, e1]⟩
  have HBK : Hid (∀ W, Below W0.heap.size W0 W → Below w.heap.size w W) := fun W hW => hb0.trans (hW.mono hb0.size)
  have HFY := hid (field_yes q W0 h3 h4 hpr)
  have HIT : Hid (∀ (b : Nat) (W1 W : World), W1.cell? ⟨b, 0, none⟩ = some (.int .i64 q) → Below W0.heap.size W0 W1 → Below W1.heap.size W1 W → InT q b W) := fun b W1 W h1 h2 h5 => by
    have hw := hb0.trans ((h2.trans (h5.mono h2.size)).mono hb0.size)
    exact ⟨⟨hpr, h3, h4, (h5.cell (p := ⟨b, 0, none⟩) (heap_lt h1)).trans h1⟩, tabu_below hT hw⟩
  have HFL : Hid (∀ W, Below W0.heap.size W0 W → Calls Tryd.prog 8 #[.agg #[.int .i64 wide, .slice aL lys.length cL]] W fun e w' => e = .returned (.int .i64 (flt wide lys)) ∧ Below W.heap.size W w') := fun W h2 => rfault13_any cL wide aL lys W hB (hl.step (hb0.trans (h2.mono hb0.size)))
  have HTO : Hid (∀ (k : Int) W, Below W0.heap.size W0 W → Calls Tryd.prog 10 #[errz k, .int .i64 k] W fun x w' => x = .returned (.bool true) ∧ Below W.heap.size W w') := fun k W h2 => by
    have := told_any k k W (hL.below (hb0.trans (h2.mono hb0.size)))
    rw [beq_self_eq_true] at this
    exact this
  have HB0 := hid hb0
  have HWG := hid hW0
  have HG := hid hG
  have hlen := hB.len
  have hilen := hI.len
  obtain ⟨c0, c1⟩ := HC.out W0 (Below.refl _ _)
  have HFZ := hid (flt_zero hF)
  rw [hF] at HFL
  have hF1 := HFZ.out.1.1
  have hn8 := HFZ.out.1.2.1.2
  have HWD := hid (fun W => rwide13_any inputs.length W)

  have hm2 : (wdz inputs.length != wide) = false := by rw [(wdz_wide hF1.1 hF1.2).2 hM]; simp
  have HVL : vle wide lys inputs.length = 0 := by unfold vle; rw [if_pos hF, if_pos hM]
  have HPA : Hid (∀ (b : Nat) W, InT q b W → Below W0.heap.size W0 W → Calls Tryd.prog 16 #[.pointer (some ⟨b, 0, none⟩), .agg #[.int .i64 wide, .slice aL lys.length cL], .int .i64 layer, .slice ai inputs.length ci, .slice az z.length cz, .slice ax xs.length cx] W fun e w' => e = .returned (.tuple #[.int .i64 0, errz 3]) ∧ Below W.heap.size W w') := fun b W h1 h2 => by
    have hw := hb0.trans (h2.mono hb0.size)
    exact partR_any q b z.length xs.length cL ci cz cx wide layer aL ai az ax lys inputs W h1 hB (hl.step hw) (hI.below hw).lst hI.fit HVL hr

  have HTX := hid (HTO.out 3)

  generalize wdz inputs.length = wd at *
  generalize inputs.length = m at *

  generalize lys.length = n at *
  generalize z.length = nz at *
  generalize xs.length = nx at *
  clear hL hT hpr hB hl hI hW0 hb0 hs0 hz0 hG hF HTO HVL hM HFZ hF1

  by_cases r1 : layer < 0
  ·
    clear hr

    go_enter Tryd.func4, Tryd.ntmps4
    go_wp2_with fail
    rw [← HWG.out, ← HG.out]
    clear HWG
    refine HFY.out.mono ?_
    rintro e w1 ⟨rfl, hc1, hb1, hlt1⟩
    have HI1 := hid (HIT.out W0.heap.size w1 w1 hc1 hb1 (Below.refl _ _))
    clear HIT
    have HB1 := hid hb1
    obtain ⟨d0, d1⟩ := HC.out w1 hb1
    generalize W0.heap.size = b at HI1 ⊢
    clear hc1 hb1 hlt1 c0 c1
    go_wp2_with fail
    refine (HPA.out b w1 HI1.out HB1.out).mono ?_
    rintro e w2 ⟨rfl, hb2⟩
    have HB2 : Hid (Below W0.heap.size W0 w2) := HB1.out.trans (hb2.mono HB1.out.size)
    obtain ⟨d0, d1⟩ := HC.out w2 HB2.out
    clear hb2
    go_wp2_with fail
    refine (HFL.out w2 HB2.out).mono ?_
    rintro e w3 ⟨rfl, hb3⟩
    have HB3 : Hid (Below W0.heap.size W0 w3) := HB2.out.trans (hb3.mono HB2.out.size)
    obtain ⟨d0, d1⟩ := HC.out w3 HB3.out
    clear hb3 HB2
    go_wp2_with fail

    refine (HWD.out w3).mono ?_
    rintro e w9 ⟨rfl, hw⟩
    have hw1 := hw.symm
    subst hw1
    clear hw
    go_wp2_with fail

    refine (HTX.out w3 HB3.out).mono ?_
    rintro e w4 ⟨rfl, hb4⟩
    have HE := hid (HBK.out _ (HB3.out.trans (hb4.mono HB3.out.size)))
    clear hb4
    go_wp2_with fail
    go_ret
    exact ⟨rfl, HE.out⟩
  · have r2 : (n : Int) ≤ layer := by omega
    clear hr
    go_enter Tryd.func4, Tryd.ntmps4
    go_wp2_with fail
    rw [← HWG.out, ← HG.out]
    clear HWG
    refine HFY.out.mono ?_
    rintro e w1 ⟨rfl, hc1, hb1, hlt1⟩
    have HI1 := hid (HIT.out W0.heap.size w1 w1 hc1 hb1 (Below.refl _ _))
    clear HIT
    have HB1 := hid hb1
    obtain ⟨d0, d1⟩ := HC.out w1 hb1
    generalize W0.heap.size = b at HI1 ⊢
    clear hc1 hb1 hlt1 c0 c1
    go_wp2_with fail
    refine (HPA.out b w1 HI1.out HB1.out).mono ?_
    rintro e w2 ⟨rfl, hb2⟩
    have HB2 : Hid (Below W0.heap.size W0 w2) := HB1.out.trans (hb2.mono HB1.out.size)
    obtain ⟨d0, d1⟩ := HC.out w2 HB2.out
    clear hb2
    go_wp2_with fail
    refine (HFL.out w2 HB2.out).mono ?_
    rintro e w3 ⟨rfl, hb3⟩
    have HB3 : Hid (Below W0.heap.size W0 w3) := HB2.out.trans (hb3.mono HB2.out.size)
    obtain ⟨d0, d1⟩ := HC.out w3 HB3.out
    clear hb3 HB2
    go_wp2_with fail

    refine (HWD.out w3).mono ?_
    rintro e w9 ⟨rfl, hw⟩
    have hw1 := hw.symm
    subst hw1
    clear hw
    go_wp2_with fail

    refine (HTX.out w3 HB3.out).mono ?_
    rintro e w4 ⟨rfl, hb4⟩
    have HE := hid (HBK.out _ (HB3.out.trans (hb4.mono HB3.out.size)))
    clear hb4
    go_wp2_with fail
    go_ret
    exact ⟨rfl, HE.out⟩

end Go.Proofs.YtaapbopcfpihbaaDoor
