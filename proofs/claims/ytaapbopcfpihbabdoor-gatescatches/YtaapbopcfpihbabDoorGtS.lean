/- Package gates: Part. -/
import Derived.Test.YtaapbopcfpihbabDoorGtR
import Derived.Test.YtaapbopcfpihbabDoorGcAO
namespace Go.Proofs.YtaapbopcfpihbabDoor
open Go.RowKit

set_option maxRecDepth 100000 in
set_option maxHeartbeats 1000000 in
theorem partF_any (p b nz nx cL ci cz cx : Nat) (wide layer : Int) (aL ai az ax : Option Addr) (lys : List (List GatZ)) (inputs : List Int) (w : World) (hIT : InT p b w) (hB : CirB lys) (hl : LstGG w.heap.size w aL cL lys) (hin : Lst w.heap.size w ai ci inputs) (hfi : Fits inputs) (hF : vle wide lys inputs.length ≠ 0) :
    Calls Tryd.prog 5 #[.pointer (some ⟨b, 0, none⟩), .agg #[.int .i64 wide, .slice aL lys.length cL], .int .i64 layer, .slice ai inputs.length ci, .slice az nz cz, .slice ax nx cx] w fun e w' => e = .returned (.tuple #[.int .i64 0, errz (vle wide lys inputs.length)]) ∧ Below w.heap.size w w' := by
  obtain ⟨W0, hW0⟩ : ∃ W0, W0 = w.alloc (.cells #[.int .i64 wide, .slice aL lys.length cL] 24) := ⟨_, rfl⟩
  obtain ⟨hb0, hs0, hz0⟩ := own_blk hW0
  obtain ⟨G, hG⟩ : ∃ G, G = w.heap.size := ⟨_, rfl⟩
  rw [← hG] at hs0
  have HC : Hid (∀ W, Below W0.heap.size W0 W → W.cell? ⟨G, 0, none⟩ = some (.int .i64 wide) ∧ W.cell? ⟨G, 1, none⟩ = some (.slice aL lys.length cL)) := fun W hW => by
    have e1 := (hW.block G (Array.getElem?_eq_some_iff.1 hs0).1).trans hs0
    exact ⟨by simp [World.cell?, e1], by simp [World.cell?, e1]⟩
  have HVA := hid (gatesValues_any p b cL ci wide aL ai lys inputs W0 (hIT.below hb0) hB (hl.step hb0) ((hin.below hb0).mono hb0.size) hfi)
  have HB0 := hid hb0
  have HWG := hid hW0
  have HG := hid hG
  obtain ⟨c0, c1⟩ := HC.out W0 (Below.refl _ _)
  rw [errz_some hF] at HVA ⊢
  generalize vle wide lys inputs.length = V at *
  generalize lys.length = n at *
  generalize gvr p wide lys inputs = Y at *
  generalize inputs.length = ni at *
  clear hF hB hl hW0 hs0 hz0 hb0 hG hin hfi hIT
  go_enter Tryd.func5, Tryd.ntmps5
  go_wp2_with fail
  rw [← HG.out, ← HWG.out]
  clear HWG
  refine HVA.out.mono ?_
  rintro e w1 ⟨v, rfl, ho1, hb1⟩
  have HB1 : Hid (Below w.heap.size w w1) := HB0.out.trans (hb1.mono HB0.out.size)
  clear hb1 c0 c1 ho1
  go_wp2_with fail
  go_ret2
  exact ⟨rfl, HB1.out⟩

set_option maxRecDepth 100000 in
set_option maxHeartbeats 1000000 in
theorem partR_any (p b nz nx cL ci cz cx : Nat) (wide layer : Int) (aL ai az ax : Option Addr) (lys : List (List GatZ)) (inputs : List Int) (w : World) (hIT : InT p b w) (hB : CirB lys) (hl : LstGG w.heap.size w aL cL lys) (hin : Lst w.heap.size w ai ci inputs) (hfi : Fits inputs) (hF : vle wide lys inputs.length = 0) (hr : ¬ (0 ≤ layer ∧ layer < (lys.length : Int))) :
    Calls Tryd.prog 5 #[.pointer (some ⟨b, 0, none⟩), .agg #[.int .i64 wide, .slice aL lys.length cL], .int .i64 layer, .slice ai inputs.length ci, .slice az nz cz, .slice ax nx cx] w fun e w' => e = .returned (.tuple #[.int .i64 0, errz 3]) ∧ Below w.heap.size w w' := by
  obtain ⟨W0, hW0⟩ : ∃ W0, W0 = w.alloc (.cells #[.int .i64 wide, .slice aL lys.length cL] 24) := ⟨_, rfl⟩
  obtain ⟨hb0, hs0, hz0⟩ := own_blk hW0
  obtain ⟨G, hG⟩ : ∃ G, G = w.heap.size := ⟨_, rfl⟩
  rw [← hG] at hs0
  have HC : Hid (∀ W, Below W0.heap.size W0 W → W.cell? ⟨G, 0, none⟩ = some (.int .i64 wide) ∧ W.cell? ⟨G, 1, none⟩ = some (.slice aL lys.length cL)) := fun W hW => by
    have e1 := (hW.block G (Array.getElem?_eq_some_iff.1 hs0).1).trans hs0
    exact ⟨by simp [World.cell?, e1], by simp [World.cell?, e1]⟩
  have HVA := hid (gatesValues_any p b cL ci wide aL ai lys inputs W0 (hIT.below hb0) hB (hl.step hb0) ((hin.below hb0).mono hb0.size) hfi)
  have HB0 := hid hb0
  have HWG := hid hW0
  have HG := hid hG
  obtain ⟨c0, c1⟩ := HC.out W0 (Below.refl _ _)
  rw [hF] at HVA
  have HIB := hid (fun W => isBelow_any layer (lys.length : Int) W)
  have hn8 := (vle_zero hF).1.2.1.2
  rw [errz_some (show (3 : Int) ≠ 0 by decide)]
  rw [decide_eq_false hr] at HIB
  generalize lys.length = n at *
  generalize gvr p wide lys inputs = Y at *
  generalize inputs.length = ni at *
  clear hF hB hl hW0 hs0 hz0 hb0 hG hr hin hfi hIT
  go_enter Tryd.func5, Tryd.ntmps5
  go_wp2_with fail
  rw [← HG.out, ← HWG.out]
  clear HWG
  refine HVA.out.mono ?_
  rintro e w1 ⟨v, rfl, ho1, hb1⟩
  rw [errz_nil]
  obtain ⟨d0, d1⟩ := HC.out w1 hb1
  have HB1 : Hid (Below w.heap.size w w1) := HB0.out.trans (hb1.mono HB0.out.size)
  clear hb1 c0 c1 ho1
  go_wp2_with fail
  refine (HIB.out _).mono ?_
  rintro e w2 ⟨rfl, hw⟩
  have hw1 := hw.symm
  subst hw1
  clear hw
  go_wp2_with fail
  go_ret2
  exact ⟨rfl, HB1.out⟩

set_option maxRecDepth 100000 in
set_option maxHeartbeats 1000000 in
theorem partS_any (p b i nz nx cL ci cz cx : Nat) (wide : Int) (aL ai az ax : Option Addr) (lys : List (List GatZ)) (inputs : List Int) (w : World) (hIT : InT p b w) (hB : CirB lys) (hl : LstGG w.heap.size w aL cL lys) (hin : Lst w.heap.size w ai ci inputs) (hfi : Fits inputs) (hF : vle wide lys inputs.length = 0) (hi : i < lys.length) (hs : ¬ (nz = bnn wide lys (i + 1) ∧ nx ≤ 2 * bnn wide lys i)) :
    Calls Tryd.prog 5 #[.pointer (some ⟨b, 0, none⟩), .agg #[.int .i64 wide, .slice aL lys.length cL], .int .i64 (i : Int), .slice ai inputs.length ci, .slice az nz cz, .slice ax nx cx] w fun e w' => e = .returned (.tuple #[.int .i64 0, errz 2]) ∧ Below w.heap.size w w' := by
  obtain ⟨W0, hW0⟩ : ∃ W0, W0 = w.alloc (.cells #[.int .i64 wide, .slice aL lys.length cL] 24) := ⟨_, rfl⟩
  obtain ⟨hb0, hs0, hz0⟩ := own_blk hW0
  obtain ⟨G, hG⟩ : ∃ G, G = w.heap.size := ⟨_, rfl⟩
  rw [← hG] at hs0
  have HC : Hid (∀ W, Below W0.heap.size W0 W → W.cell? ⟨G, 0, none⟩ = some (.int .i64 wide) ∧ W.cell? ⟨G, 1, none⟩ = some (.slice aL lys.length cL)) := fun W hW => by
    have e1 := (hW.block G (Array.getElem?_eq_some_iff.1 hs0).1).trans hs0
    exact ⟨by simp [World.cell?, e1], by simp [World.cell?, e1]⟩
  have HVA := hid (gatesValues_any p b cL ci wide aL ai lys inputs W0 (hIT.below hb0) hB (hl.step hb0) ((hin.below hb0).mono hb0.size) hfi)
  have HB0 := hid hb0
  have HWG := hid hW0
  have HG := hid hG
  obtain ⟨c0, c1⟩ := HC.out W0 (Below.refl _ _)
  have HFZ := hid (vle_zero hF)
  rw [hF] at HVA
  have hiB : (0 ≤ (i : Int) ∧ (i : Int) < (lys.length : Int)) := by omega
  have HIB := hid (fun W => isBelow_any (i : Int) (lys.length : Int) W)
  rw [decide_eq_true hiB] at HIB
  have hn8 := HFZ.out.1.2.1.2
  have HLV : Hid (∀ W, Below W0.heap.size W0 W → Calls Tryd.prog 16 #[.pointer (some ⟨b, 0, none⟩), .agg #[.int .i64 wide, .slice aL lys.length cL], .int .i64 (i : Int)] W fun e w' => ∃ ag cg, e = .returned (.agg #[.pointer (some ⟨b, 0, none⟩), .slice ag (lyt lys i).length cg, .int .i64 (bnn wide lys i : Int)]) ∧ LstG W.heap.size W ag cg (lyt lys i) ∧ Below W.heap.size W w') := fun W hW => by
    have hw2 := hb0.trans (hW.mono hb0.size)
    exact levelOf_any b i cL wide aL lys W HFZ.out.1 hi (hl.step hw2) (tabu_below hIT.tab hw2)
  obtain ⟨o1, o2⟩ := HFZ.out.1.own hi
  obtain ⟨_, o4⟩ := HFZ.out.1.bn (i := i + 1) (by omega)
  obtain ⟨_, o3⟩ := HFZ.out.1.bn (i := i) (by omega)
  have HOW : Hid (∀ W ag cg (x y : Value), Below W0.heap.size W0 W → Calls Tryd.prog 17 #[.agg #[x, .slice ag (lyt lys i).length cg, y]] W fun e w' => e = .returned (.int .i64 (bnn wide lys (i + 1) : Int)) ∧ Below W.heap.size W w') := fun W ag cg x y hW => by
    have hw2 := hb0.trans (hW.mono hb0.size)
    exact gown_any x y _ _ cg ag W o4 o1 (tabu_below hIT.tab hw2)
  rw [errz_some (show (2 : Int) ≠ 0 by decide)]
  generalize bnn wide lys (i + 1) = ow at *
  generalize bnn wide lys i = bl at *
  generalize lyt lys i = gs at *
  generalize lys.length = n at *
  generalize gs.length = M at *
  generalize gvr p wide lys inputs = Y at *
  generalize inputs.length = ni at *
  have hw2 : IntKind.i64.wrap (2 * (bl : Int)) = 2 * (bl : Int) := by rw [IntKind.wrap_i64]; omega
  by_cases h1 : nz = ow
  · have k1 : ((nz : Int) != (ow : Int)) = false := by rw [h1]; simp
    have k2 : (2 * (bl : Int) < (nx : Int)) := by
      have : ¬ nx ≤ 2 * bl := fun h => hs ⟨h1, h⟩
      omega
    clear hF hB hl hW0 hs0 hz0 hb0 hG hs h1 hIT hi hiB HFZ o1 o2 o3 o4 hin hfi
    go_enter Tryd.func5, Tryd.ntmps5
    go_wp2_with fail
    rw [← HG.out, ← HWG.out]
    clear HWG
    refine HVA.out.mono ?_
    rintro e w1 ⟨v, rfl, ho1, hb1⟩
    rw [errz_nil]
    obtain ⟨d0, d1⟩ := HC.out w1 hb1
    clear c0 c1 ho1
    go_wp2_with fail
    refine (HIB.out _).mono ?_
    rintro e w2 ⟨rfl, hw⟩
    have hw1 := hw.symm
    subst hw1
    clear hw
    go_wp2_with fail
    refine (HLV.out _ hb1).mono ?_
    rintro e w3 ⟨ag, cg, rfl, hg3, hb3⟩
    have hb03 := hb1.trans (hb3.mono hb1.size)
    obtain ⟨W4, hW4⟩ : ∃ W4, W4 = w3.alloc (.cells #[.pointer (some ⟨b, 0, none⟩), .slice ag M cg, .int .i64 (bl : Int)] 52) := ⟨_, rfl⟩
    obtain ⟨hb4, hs4, hz4⟩ := own_blk hW4
    obtain ⟨L, hL⟩ : ∃ L, L = w3.heap.size := ⟨_, rfl⟩
    have HLE := hid hL
    rw [← hL] at hs4
    have hb04 := hb03.trans (hb4.mono hb03.size)
    have HLC : Hid (∀ W, Below W4.heap.size W4 W → W.cell? ⟨L, 0, none⟩ = some (.pointer (some ⟨b, 0, none⟩)) ∧ W.cell? ⟨L, 1, none⟩ = some (.slice ag M cg) ∧ W.cell? ⟨L, 2, none⟩ = some (.int .i64 (bl : Int))) := fun W hW => by
      have e1 := (hW.block L (by omega)).trans hs4
      exact ⟨by simp [World.cell?, e1], by simp [World.cell?, e1], by simp [World.cell?, e1]⟩
    have HOX := hid (HOW.out W4 ag cg (.pointer (some ⟨b, 0, none⟩)) (.int .i64 (bl : Int)) hb04)
    have HB04 := hid hb04
    have HB14 : Hid (∀ W, Below W4.heap.size W4 W → Below w1.heap.size w1 W) := fun W hW => hb3.trans ((hb4.trans (hW.mono hb4.size)).mono hb3.size)
    have HWG4 := hid hW4
    have HG4 : Hid (LstG W4.heap.size W4 ag cg gs) := (hg3.step hb3).step hb4
    clear hg3 hb3 hb03 hb04 hb4 hs4 hz4 hW4 hL hb1
    go_wp2_with fail
    rw [← HWG4.out, ← HLE.out]
    clear HWG4
    obtain ⟨l0, l1, l2⟩ := HLC.out W4 (Below.refl _ _)
    go_wp2_with fail
    refine HOX.out.mono ?_
    rintro e w5 ⟨rfl, hb5⟩
    obtain ⟨m0, m1, m2⟩ := HLC.out w5 hb5
    have HB05 : Hid (Below W0.heap.size W0 w5) := HB04.out.trans (hb5.mono HB04.out.size)
    have HG5 := hid (HG4.out.step hb5)
    have HB45 := hid hb5
    clear hb5 l0 l1 l2 HOX
    go_wp2_with fail
    go_ret2
    exact ⟨rfl, HB0.out.trans (HB05.out.mono HB0.out.size)⟩
  · have k1 : ((nz : Int) != (ow : Int)) = true := by rw [bne_iff_ne]; omega
    clear hF hB hl hW0 hs0 hz0 hb0 hG hs h1 hIT hi hiB HFZ o1 o2 o3 o4 hin hfi
    go_enter Tryd.func5, Tryd.ntmps5
    go_wp2_with fail
    rw [← HG.out, ← HWG.out]
    clear HWG
    refine HVA.out.mono ?_
    rintro e w1 ⟨v, rfl, ho1, hb1⟩
    rw [errz_nil]
    obtain ⟨d0, d1⟩ := HC.out w1 hb1
    clear c0 c1 ho1
    go_wp2_with fail
    refine (HIB.out _).mono ?_
    rintro e w2 ⟨rfl, hw⟩
    have hw1 := hw.symm
    subst hw1
    clear hw
    go_wp2_with fail
    refine (HLV.out _ hb1).mono ?_
    rintro e w3 ⟨ag, cg, rfl, hg3, hb3⟩
    have hb03 := hb1.trans (hb3.mono hb1.size)
    obtain ⟨W4, hW4⟩ : ∃ W4, W4 = w3.alloc (.cells #[.pointer (some ⟨b, 0, none⟩), .slice ag M cg, .int .i64 (bl : Int)] 52) := ⟨_, rfl⟩
    obtain ⟨hb4, hs4, hz4⟩ := own_blk hW4
    obtain ⟨L, hL⟩ : ∃ L, L = w3.heap.size := ⟨_, rfl⟩
    have HLE := hid hL
    rw [← hL] at hs4
    have hb04 := hb03.trans (hb4.mono hb03.size)
    have HLC : Hid (∀ W, Below W4.heap.size W4 W → W.cell? ⟨L, 0, none⟩ = some (.pointer (some ⟨b, 0, none⟩)) ∧ W.cell? ⟨L, 1, none⟩ = some (.slice ag M cg) ∧ W.cell? ⟨L, 2, none⟩ = some (.int .i64 (bl : Int))) := fun W hW => by
      have e1 := (hW.block L (by omega)).trans hs4
      exact ⟨by simp [World.cell?, e1], by simp [World.cell?, e1], by simp [World.cell?, e1]⟩
    have HOX := hid (HOW.out W4 ag cg (.pointer (some ⟨b, 0, none⟩)) (.int .i64 (bl : Int)) hb04)
    have HB04 := hid hb04
    have HB14 : Hid (∀ W, Below W4.heap.size W4 W → Below w1.heap.size w1 W) := fun W hW => hb3.trans ((hb4.trans (hW.mono hb4.size)).mono hb3.size)
    have HWG4 := hid hW4
    have HG4 : Hid (LstG W4.heap.size W4 ag cg gs) := (hg3.step hb3).step hb4
    clear hg3 hb3 hb03 hb04 hb4 hs4 hz4 hW4 hL hb1
    go_wp2_with fail
    rw [← HWG4.out, ← HLE.out]
    clear HWG4
    obtain ⟨l0, l1, l2⟩ := HLC.out W4 (Below.refl _ _)
    go_wp2_with fail
    refine HOX.out.mono ?_
    rintro e w5 ⟨rfl, hb5⟩
    obtain ⟨m0, m1, m2⟩ := HLC.out w5 hb5
    have HB05 : Hid (Below W0.heap.size W0 w5) := HB04.out.trans (hb5.mono HB04.out.size)
    have HG5 := hid (HG4.out.step hb5)
    have HB45 := hid hb5
    clear hb5 l0 l1 l2 HOX
    go_wp2_with fail
    go_ret2
    exact ⟨rfl, HB0.out.trans (HB05.out.mono HB0.out.size)⟩

set_option maxRecDepth 100000 in
set_option maxHeartbeats 1000000 in
theorem partY_any (p b i cL ci cz cx : Nat) (wide : Int) (aL ai az ax : Option Addr) (lys : List (List GatZ)) (inputs z xs : List Int) (w : World) (hIT : InT p b w) (hB : CirB lys) (hl : LstGG w.heap.size w aL cL lys) (hin : Lst w.heap.size w ai ci inputs) (hfi : Fits inputs) (hF : vle wide lys inputs.length = 0) (hi : i < lys.length) (hz : z.length = bnn wide lys (i + 1)) (hx : xs.length ≤ 2 * bnn wide lys i) (fz : Fits z) (fx : Fits xs) (rz : RowB w.heap.size w az z) (lx : Lst w.heap.size w ax cx xs) :
    Calls Tryd.prog 5 #[.pointer (some ⟨b, 0, none⟩), .agg #[.int .i64 wide, .slice aL lys.length cL], .int .i64 (i : Int), .slice ai inputs.length ci, .slice az z.length cz, .slice ax xs.length cx] w fun e w' => e = .returned (.tuple #[.int .i64 (ptz p (lyt lys i) (gvs p lys inputs i) (bnn wide lys i) z xs), .nilIface]) ∧ Below w.heap.size w w' := by
  obtain ⟨W0, hW0⟩ : ∃ W0, W0 = w.alloc (.cells #[.int .i64 wide, .slice aL lys.length cL] 24) := ⟨_, rfl⟩
  obtain ⟨hb0, hs0, hz0⟩ := own_blk hW0
  obtain ⟨G, hG⟩ : ∃ G, G = w.heap.size := ⟨_, rfl⟩
  rw [← hG] at hs0
  have HC : Hid (∀ W, Below W0.heap.size W0 W → W.cell? ⟨G, 0, none⟩ = some (.int .i64 wide) ∧ W.cell? ⟨G, 1, none⟩ = some (.slice aL lys.length cL)) := fun W hW => by
    have e1 := (hW.block G (Array.getElem?_eq_some_iff.1 hs0).1).trans hs0
    exact ⟨by simp [World.cell?, e1], by simp [World.cell?, e1]⟩
  have HVA := hid (gatesValues_any p b cL ci wide aL ai lys inputs W0 (hIT.below hb0) hB (hl.step hb0) ((hin.below hb0).mono hb0.size) hfi)
  have HB0 := hid hb0
  have HWG := hid hW0
  have HG := hid hG
  obtain ⟨c0, c1⟩ := HC.out W0 (Below.refl _ _)
  have HFZ := hid (vle_zero hF)
  rw [hF] at HVA
  have hiB : (0 ≤ (i : Int) ∧ (i : Int) < (lys.length : Int)) := by omega
  have HIB := hid (fun W => isBelow_any (i : Int) (lys.length : Int) W)
  rw [decide_eq_true hiB] at HIB
  have hn8 := HFZ.out.1.2.1.2
  have HLV : Hid (∀ W, Below W0.heap.size W0 W → Calls Tryd.prog 16 #[.pointer (some ⟨b, 0, none⟩), .agg #[.int .i64 wide, .slice aL lys.length cL], .int .i64 (i : Int)] W fun e w' => ∃ ag cg, e = .returned (.agg #[.pointer (some ⟨b, 0, none⟩), .slice ag (lyt lys i).length cg, .int .i64 (bnn wide lys i : Int)]) ∧ LstG W.heap.size W ag cg (lyt lys i) ∧ Below W.heap.size W w') := fun W hW => by
    have hw2 := hb0.trans (hW.mono hb0.size)
    exact levelOf_any b i cL wide aL lys W HFZ.out.1 hi (hl.step hw2) (tabu_below hIT.tab hw2)
  obtain ⟨o1, o2⟩ := HFZ.out.1.own hi
  obtain ⟨_, o4⟩ := HFZ.out.1.bn (i := i + 1) (by omega)
  obtain ⟨_, o3⟩ := HFZ.out.1.bn (i := i) (by omega)
  have HOW : Hid (∀ W ag cg (x y : Value), Below W0.heap.size W0 W → Calls Tryd.prog 17 #[.agg #[x, .slice ag (lyt lys i).length cg, y]] W fun e w' => e = .returned (.int .i64 (bnn wide lys (i + 1) : Int)) ∧ Below W.heap.size W w') := fun W ag cg x y hW => by
    have hw2 := hb0.trans (hW.mono hb0.size)
    exact gown_any x y _ _ cg ag W o4 o1 (tabu_below hIT.tab hw2)
  have HPA : Hid (∀ W ag cg ar cr, Below W0.heap.size W0 W → LstG W.heap.size W ag cg (lyt lys i) → Lst W.heap.size W ar cr (gvs p lys inputs i) → Calls Tryd.prog 18 #[.agg #[.pointer (some ⟨b, 0, none⟩), .slice ag (lyt lys i).length cg, .int .i64 (bnn wide lys i : Int)], .slice ar (gvs p lys inputs i).length cr, .slice az z.length cz, .slice ax xs.length cx] W fun e w' => e = .returned (.int .i64 (ptz p (lyt lys i) (gvs p lys inputs i) (bnn wide lys i) z xs)) ∧ Below W.heap.size W w') := fun W ag cg ar cr hW hg hr => by
    have hw2 := hb0.trans (hW.mono hb0.size)
    exact part_any p b (bnn wide lys i) cg cr cz cx ag ar az ax (lyt lys i) (gvs p lys inputs i) z xs W (hIT.below hw2) o3 (gvs_len HFZ.out.1 HFZ.out.2.2 (by omega)) (by rw [o1]; exact pow_6 o4) hg (fun k hk => ⟨(HFZ.out.2.1 i hi k hk).2.1.1, (HFZ.out.2.1 i hi k hk).2.2.1⟩) (by omega) hx (gvs_fits hIT.h3 hIT.hm _ _ _) fz fx hr ((rz.below hw2).mono hw2.size) ((lx.below hw2).mono hw2.size)
  have HY : gvr p wide lys inputs = gva p lys inputs (lys.length + 1) := by unfold gvr; rw [if_pos hF]
  rw [HY] at HVA
  have HYL : Hid ((gva p lys inputs (lys.length + 1)).length = lys.length + 1) := gva_len _ _ _ _
  have HYR : Hid (rat (gva p lys inputs (lys.length + 1)) i = gvs p lys inputs i) := gva_rat (by omega)
  have k1 : ((z.length : Int) != (bnn wide lys (i + 1) : Int)) = false := by rw [hz]; simp
  have hw2 : IntKind.i64.wrap (2 * (bnn wide lys i : Int)) = 2 * (bnn wide lys i : Int) := by rw [IntKind.wrap_i64]; omega
  have k2 : ¬ (2 * (bnn wide lys i : Int) < (xs.length : Int)) := by omega
  have k4 : (i : Int) < (lys.length : Int) + 1 := by omega
  generalize ptz p (lyt lys i) (gvs p lys inputs i) (bnn wide lys i) z xs = E at *
  generalize gvs p lys inputs i = T at *
  generalize gva p lys inputs (lys.length + 1) = Y at *
  generalize bnn wide lys (i + 1) = ow at *
  generalize bnn wide lys i = bl at *
  generalize lyt lys i = gs at *
  generalize lys.length = n at *
  generalize gs.length = M at *
  generalize z.length = nz at *
  generalize xs.length = nx at *
  generalize inputs.length = ni at *
  clear hF hB hl hW0 hs0 hz0 hb0 hG hIT hiB HFZ o1 o2 o3 o4 hz hx fz fx rz lx hin hfi HY
  go_enter Tryd.func5, Tryd.ntmps5
  go_wp2_with fail
  rw [← HG.out, ← HWG.out]
  clear HWG
  refine HVA.out.mono ?_
  rintro e w1 ⟨v, rfl, ho1, hb1⟩
  rw [errz_nil]
  obtain ⟨d0, d1⟩ := HC.out w1 hb1
  obtain ⟨av, cv, rfl, hLR⟩ := ho1.lst
  obtain ⟨b2, o2, ar, cr, rfl, hb2, hr1, hr2⟩ := hLR.row i (by rw [HYL.out]; omega)
  rw [HYR.out] at hr1 hr2
  rw [HYL.out]
  have HRW : Hid (∀ W, Below w1.heap.size w1 W → W.cell? ⟨b2, o2 + i, none⟩ = some (.slice ar T.length cr) ∧ Lst W.heap.size W ar cr T) := fun W hW => ⟨(hW.cell (p := ⟨b2, o2 + i, none⟩) hb2).trans hr1, (hr2.below hW).mono hW.size⟩
  clear hLR hb2 hr1 hr2
  clear c0 c1 ho1
  go_wp2_with fail
  refine (HIB.out _).mono ?_
  rintro e w2 ⟨rfl, hw⟩
  have hw1 := hw.symm
  subst hw1
  clear hw
  go_wp2_with fail
  refine (HLV.out _ hb1).mono ?_
  rintro e w3 ⟨ag, cg, rfl, hg3, hb3⟩
  have hb03 := hb1.trans (hb3.mono hb1.size)
  obtain ⟨W4, hW4⟩ : ∃ W4, W4 = w3.alloc (.cells #[.pointer (some ⟨b, 0, none⟩), .slice ag M cg, .int .i64 (bl : Int)] 52) := ⟨_, rfl⟩
  obtain ⟨hb4, hs4, hz4⟩ := own_blk hW4
  obtain ⟨L, hL⟩ : ∃ L, L = w3.heap.size := ⟨_, rfl⟩
  have HLE := hid hL
  rw [← hL] at hs4
  have hb04 := hb03.trans (hb4.mono hb03.size)
  have HLC : Hid (∀ W, Below W4.heap.size W4 W → W.cell? ⟨L, 0, none⟩ = some (.pointer (some ⟨b, 0, none⟩)) ∧ W.cell? ⟨L, 1, none⟩ = some (.slice ag M cg) ∧ W.cell? ⟨L, 2, none⟩ = some (.int .i64 (bl : Int))) := fun W hW => by
    have e1 := (hW.block L (by omega)).trans hs4
    exact ⟨by simp [World.cell?, e1], by simp [World.cell?, e1], by simp [World.cell?, e1]⟩
  have HOX := hid (HOW.out W4 ag cg (.pointer (some ⟨b, 0, none⟩)) (.int .i64 (bl : Int)) hb04)
  have HB04 := hid hb04
  have HB14 : Hid (∀ W, Below W4.heap.size W4 W → Below w1.heap.size w1 W) := fun W hW => hb3.trans ((hb4.trans (hW.mono hb4.size)).mono hb3.size)
  have HWG4 := hid hW4
  have HG4 : Hid (LstG W4.heap.size W4 ag cg gs) := (hg3.step hb3).step hb4
  clear hg3 hb3 hb03 hb04 hb4 hs4 hz4 hW4 hL hb1
  go_wp2_with fail
  rw [← HWG4.out, ← HLE.out]
  clear HWG4
  obtain ⟨l0, l1, l2⟩ := HLC.out W4 (Below.refl _ _)
  go_wp2_with fail
  refine HOX.out.mono ?_
  rintro e w5 ⟨rfl, hb5⟩
  obtain ⟨m0, m1, m2⟩ := HLC.out w5 hb5
  have HB05 : Hid (Below W0.heap.size W0 w5) := HB04.out.trans (hb5.mono HB04.out.size)
  have HG5 := hid (HG4.out.step hb5)
  have HB45 := hid hb5
  clear hb5 l0 l1 l2 HOX
  go_wp2_with fail
  have HBD : Hid (Below w5.heap.size w5 w5.drew) := (Below.refl _ _).drew
  have HSB : Hid (∀ W, Below w5.heap.size w5 W → (W.cell? ⟨L, 0, none⟩ = some (.pointer (some ⟨b, 0, none⟩)) ∧ W.cell? ⟨L, 1, none⟩ = some (.slice ag M cg) ∧ W.cell? ⟨L, 2, none⟩ = some (.int .i64 (bl : Int))) ∧ W.cell? ⟨b2, o2 + i, none⟩ = some (.slice ar T.length cr)) := fun W hW => by
    have h4 := HB45.out.trans (hW.mono HB45.out.size)
    exact ⟨HLC.out W h4, (HRW.out W (HB14.out W h4)).1⟩
  have HPT := hid (HPA.out w5.drew ag cg ar cr HB05.out.drew (HG5.out.step HBD.out) (HRW.out w5.drew (HB14.out _ HB45.out.drew)).2)
  generalize T.length = NT at *
  clear m0 m1 m2
  refine wp_region_held_drew (S := fun W => (W.cell? ⟨L, 0, none⟩ = some (.pointer (some ⟨b, 0, none⟩)) ∧ W.cell? ⟨L, 1, none⟩ = some (.slice ag M cg) ∧ W.cell? ⟨L, 2, none⟩ = some (.int .i64 (bl : Int))) ∧ W.cell? ⟨b2, o2 + i, none⟩ = some (.slice ar NT cr)) (by kernel_rfl) (HSB.out _ HBD.out) (fun hHeld => ?_)
  refine wpAnyH_takeU (i := 0) (v := .agg #[.pointer (some ⟨b, 0, none⟩), .slice ag M cg, .int .i64 (bl : Int)]) rfl (by kernel_rfl) (by kernel_rfl) (by kernel_rfl) (fun _ _ _ h => h) (by rfl) (fun W hC => by (obtain ⟨⟨x1, x2, x3⟩, x4⟩ := hC); go_simp) hHeld ?_
  simp only [Act.put, List.setIfInBounds_toArray, List.set_cons_zero, List.set_cons_succ]
  refine wpAnyH_takeU (i := 1) (v := .slice (some ⟨b2, o2, none⟩) (n + 1) cv) rfl (by kernel_rfl) (by kernel_rfl) (by kernel_rfl) (fun _ _ _ h => h) (by rfl) (fun W hC => by go_simp) hHeld ?_
  simp only [Act.put, List.setIfInBounds_toArray, List.set_cons_zero, List.set_cons_succ]
  refine wpAnyH_takeU (i := 2) (v := .int .i64 (i : Int)) rfl (by kernel_rfl) (by kernel_rfl) (by kernel_rfl) (fun _ _ _ h => h) (by rfl) (fun W hC => by go_simp) hHeld ?_
  simp only [Act.put, List.setIfInBounds_toArray, List.set_cons_zero, List.set_cons_succ]
  refine wpAnyH_takeU (i := 3) (v := .pointer (some ⟨b2, o2 + i, none⟩)) rfl (by kernel_rfl) (by kernel_rfl) (by kernel_rfl) (fun _ _ _ h => h) (by rfl) (fun W hC => by go_simp) hHeld ?_
  simp only [Act.put, List.setIfInBounds_toArray, List.set_cons_zero, List.set_cons_succ]
  refine wpAnyH_takeU (i := 4) (v := .slice ar NT cr) rfl (by kernel_rfl) (by kernel_rfl) (by kernel_rfl) (fun _ _ _ h => h) (by rfl) (fun W hC => by (obtain ⟨⟨x1, x2, x3⟩, x4⟩ := hC); go_simp) hHeld ?_
  simp only [Act.put, List.setIfInBounds_toArray, List.set_cons_zero, List.set_cons_succ]
  refine wpAnyH_takeU (i := 5) (v := .slice az nz cz) rfl (by kernel_rfl) (by kernel_rfl) (by kernel_rfl) (fun _ _ _ h => h) (by rfl) (fun W hC => by go_simp) hHeld ?_
  simp only [Act.put, List.setIfInBounds_toArray, List.set_cons_zero, List.set_cons_succ]
  refine wpAnyH_takeU (i := 6) (v := .slice ax nx cx) rfl (by kernel_rfl) (by kernel_rfl) (by kernel_rfl) (fun _ _ _ h => h) (by rfl) (fun W hC => by go_simp) hHeld ?_
  simp only [Act.put, List.setIfInBounds_toArray, List.set_cons_zero, List.set_cons_succ]
  refine wpAnyH_ready (rs := [7]) (by kernel_rfl) (by simp) ?_
  refine AllReadyH.consU rfl (fun K' hK' => ?_) AllReadyH.nil
  go_simp
  refine (HPT.out).mono ?_
  rintro e w6 ⟨rfl, hb6⟩
  have HB6 := hid (HBD.out.trans (hb6.mono HBD.out.size))
  have hS6 := HSB.out w6 HB6.out
  clear hb6
  refine hK'.out _ _ (hS6) (fun hHeld => ?_)
  clear hK' K'
  refine wpAnyH_ready (rs := [8]) (by kernel_rfl) (by simp) ?_
  refine AllReadyH.consU rfl (fun K' hK' => ?_) AllReadyH.nil
  go_simp
  refine hK'.out _ _ (hS6) (fun hHeld => ?_)
  clear hK' K'
  refine wpAnyH_ready (rs := [9]) (by kernel_rfl) (by simp) ?_
  refine AllReadyH.consU rfl (fun K' hK' => ?_) AllReadyH.nil
  go_simp
  refine hK'.out _ _ (hS6) (fun hHeld => ?_)
  clear hK' K'
  refine wpAnyH_done (by kernel_rfl) ?_ _
  go_wp2_with fail
  go_ret2
  exact ⟨rfl, HB0.out.trans ((HB05.out.trans (HB6.out.mono HB05.out.size)).mono HB0.out.size)⟩

end Go.Proofs.YtaapbopcfpihbabDoor
