/- Package gates: Wire. -/
import Derived.Test.YtaapbopcfpihbaaDoorGtJ
namespace Go.Proofs.YtaapbopcfpihbaaDoor
open Go.RowKit

set_option maxRecDepth 100000 in
set_option maxHeartbeats 1000000 in
theorem wireF_any (b nz nx ny cL cz cx cy : Nat) (wide layer kind : Int) (aL az ax ay : Option Addr) (lys : List (List GatZ)) (w : World) (hB : CirB lys) (hl : LstGG w.heap.size w aL cL lys) (hF : flt wide lys ≠ 0) :
    Calls Tryd.prog 13 #[.pointer (some ⟨b, 0, none⟩), .agg #[.int .i64 wide, .slice aL lys.length cL], .int .i64 layer, .int .i64 kind, .slice az nz cz, .slice ax nx cx, .slice ay ny cy] w fun e w' => e = .returned (.tuple #[.int .i64 0, errz (flt wide lys)]) ∧ Below w.heap.size w w' := by
  obtain ⟨W0, hW0⟩ : ∃ W0, W0 = w.alloc (.cells #[.int .i64 wide, .slice aL lys.length cL] 24) := ⟨_, rfl⟩
  obtain ⟨hb0, hs0, hz0⟩ := own_blk hW0
  obtain ⟨G, hG⟩ : ∃ G, G = w.heap.size := ⟨_, rfl⟩
  rw [← hG] at hs0
  have HC : Hid (∀ W, Below W0.heap.size W0 W → W.cell? ⟨G, 0, none⟩ = some (.int .i64 wide) ∧ W.cell? ⟨G, 1, none⟩ = some (.slice aL lys.length cL)) := fun W hW => by
    have e1 := (hW.block G (Array.getElem?_eq_some_iff.1 hs0).1).trans hs0
    exact ⟨by simp [World.cell?, e1], by simp [World.cell?, e1]⟩
  have HFO := hid (faultOf_any wide cL aL lys W0 hB (hl.step hb0))
  have HB0 := hid hb0
  have HWG := hid hW0
  have HG := hid hG
  obtain ⟨c0, c1⟩ := HC.out W0 (Below.refl _ _)
  rw [errz_some hF] at HFO ⊢
  generalize flt wide lys = V at *
  generalize lys.length = n at *
  clear hF hB hl hW0 hs0 hz0 hb0 hG
  go_enter Tryd.func13, Tryd.ntmps13
  go_wp2_with fail
  rw [← HG.out, ← HWG.out]
  clear HWG
  refine HFO.out.mono ?_
  rintro e w1 ⟨rfl, hb1⟩
  have HB1 : Hid (Below w.heap.size w w1) := HB0.out.trans (hb1.mono HB0.out.size)
  clear hb1 c0 c1
  go_wp2_with fail
  go_ret2
  exact ⟨rfl, HB1.out⟩

set_option maxRecDepth 100000 in
set_option maxHeartbeats 1000000 in
theorem wireR_any (b nz nx ny cL cz cx cy : Nat) (wide layer kind : Int) (aL az ax ay : Option Addr) (lys : List (List GatZ)) (w : World) (hB : CirB lys) (hl : LstGG w.heap.size w aL cL lys) (hF : flt wide lys = 0) (hr : ¬ ((0 ≤ layer ∧ layer < (lys.length : Int)) ∧ (0 ≤ kind ∧ kind < 2))) :
    Calls Tryd.prog 13 #[.pointer (some ⟨b, 0, none⟩), .agg #[.int .i64 wide, .slice aL lys.length cL], .int .i64 layer, .int .i64 kind, .slice az nz cz, .slice ax nx cx, .slice ay ny cy] w fun e w' => e = .returned (.tuple #[.int .i64 0, errz 3]) ∧ Below w.heap.size w w' := by
  obtain ⟨W0, hW0⟩ : ∃ W0, W0 = w.alloc (.cells #[.int .i64 wide, .slice aL lys.length cL] 24) := ⟨_, rfl⟩
  obtain ⟨hb0, hs0, hz0⟩ := own_blk hW0
  obtain ⟨G, hG⟩ : ∃ G, G = w.heap.size := ⟨_, rfl⟩
  rw [← hG] at hs0
  have HC : Hid (∀ W, Below W0.heap.size W0 W → W.cell? ⟨G, 0, none⟩ = some (.int .i64 wide) ∧ W.cell? ⟨G, 1, none⟩ = some (.slice aL lys.length cL)) := fun W hW => by
    have e1 := (hW.block G (Array.getElem?_eq_some_iff.1 hs0).1).trans hs0
    exact ⟨by simp [World.cell?, e1], by simp [World.cell?, e1]⟩
  have HFO := hid (faultOf_any wide cL aL lys W0 hB (hl.step hb0))
  have HB0 := hid hb0
  have HWG := hid hW0
  have HG := hid hG
  obtain ⟨c0, c1⟩ := HC.out W0 (Below.refl _ _)
  rw [hF] at HFO
  have HIB := hid (fun W => isBelow_any layer (lys.length : Int) W)
  have HIK := hid (fun W => isBelow_any kind 2 W)
  have hn8 := (flt_zero hF).1.2.1.2
  rw [errz_some (show (3 : Int) ≠ 0 by decide)]
  by_cases h1 : 0 ≤ layer ∧ layer < (lys.length : Int)
  · have h2 : ¬ (0 ≤ kind ∧ kind < 2) := fun h => hr ⟨h1, h⟩
    rw [decide_eq_true h1] at HIB
    rw [decide_eq_false h2] at HIK
    generalize lys.length = n at *
    clear hF hB hl hW0 hs0 hz0 hb0 hG h1 h2 hr
    go_enter Tryd.func13, Tryd.ntmps13
    go_wp2_with fail
    rw [← HG.out, ← HWG.out]
    clear HWG
    refine HFO.out.mono ?_
    rintro e w1 ⟨rfl, hb1⟩
    rw [errz_nil]
    obtain ⟨d0, d1⟩ := HC.out w1 hb1
    have HB1 : Hid (Below w.heap.size w w1) := HB0.out.trans (hb1.mono HB0.out.size)
    clear hb1 c0 c1
    go_wp2_with fail
    refine (HIB.out _).mono ?_
    rintro e w2 ⟨rfl, hw⟩
    have hw1 := hw.symm
    subst hw1
    clear hw
    go_wp2_with fail
    refine (HIK.out _).mono ?_
    rintro e w2 ⟨rfl, hw⟩
    have hw1 := hw.symm
    subst hw1
    clear hw
    go_wp2_with fail
    go_ret2
    exact ⟨rfl, HB1.out⟩
  · rw [decide_eq_false h1] at HIB
    generalize lys.length = n at *
    clear hF hB hl hW0 hs0 hz0 hb0 hG h1 hr HIK
    go_enter Tryd.func13, Tryd.ntmps13
    go_wp2_with fail
    rw [← HG.out, ← HWG.out]
    clear HWG
    refine HFO.out.mono ?_
    rintro e w1 ⟨rfl, hb1⟩
    rw [errz_nil]
    obtain ⟨d0, d1⟩ := HC.out w1 hb1
    have HB1 : Hid (Below w.heap.size w w1) := HB0.out.trans (hb1.mono HB0.out.size)
    clear hb1 c0 c1
    go_wp2_with fail
    refine (HIB.out _).mono ?_
    rintro e w2 ⟨rfl, hw⟩
    have hw1 := hw.symm
    subst hw1
    clear hw
    go_wp2_with fail
    go_ret2
    exact ⟨rfl, HB1.out⟩

set_option maxRecDepth 100000 in
set_option maxHeartbeats 1000000 in
theorem wireS_any (p b i nz nx ny cL cz cx cy : Nat) (wide kind : Int) (aL az ax ay : Option Addr) (lys : List (List GatZ)) (w : World) (hB : CirB lys) (hl : LstGG w.heap.size w aL cL lys) (hIT : InT p b w) (hF : flt wide lys = 0) (hi : i < lys.length) (hk : 0 ≤ kind ∧ kind < 2) (hs : ¬ (nz = bnn wide lys (i + 1) ∧ nx = bnn wide lys i ∧ ny = bnn wide lys i)) :
    Calls Tryd.prog 13 #[.pointer (some ⟨b, 0, none⟩), .agg #[.int .i64 wide, .slice aL lys.length cL], .int .i64 (i : Int), .int .i64 kind, .slice az nz cz, .slice ax nx cx, .slice ay ny cy] w fun e w' => e = .returned (.tuple #[.int .i64 0, errz 2]) ∧ Below w.heap.size w w' := by
  obtain ⟨W0, hW0⟩ : ∃ W0, W0 = w.alloc (.cells #[.int .i64 wide, .slice aL lys.length cL] 24) := ⟨_, rfl⟩
  obtain ⟨hb0, hs0, hz0⟩ := own_blk hW0
  obtain ⟨G, hG⟩ : ∃ G, G = w.heap.size := ⟨_, rfl⟩
  rw [← hG] at hs0
  have HC : Hid (∀ W, Below W0.heap.size W0 W → W.cell? ⟨G, 0, none⟩ = some (.int .i64 wide) ∧ W.cell? ⟨G, 1, none⟩ = some (.slice aL lys.length cL)) := fun W hW => by
    have e1 := (hW.block G (Array.getElem?_eq_some_iff.1 hs0).1).trans hs0
    exact ⟨by simp [World.cell?, e1], by simp [World.cell?, e1]⟩
  have HFO := hid (faultOf_any wide cL aL lys W0 hB (hl.step hb0))
  have HB0 := hid hb0
  have HWG := hid hW0
  have HG := hid hG
  obtain ⟨c0, c1⟩ := HC.out W0 (Below.refl _ _)
  have HFZ := hid (flt_zero hF)
  rw [hF] at HFO
  have hiB : (0 ≤ (i : Int) ∧ (i : Int) < (lys.length : Int)) := by omega
  have HIB := hid (fun W => isBelow_any (i : Int) (lys.length : Int) W)
  rw [decide_eq_true hiB] at HIB
  have HIK := hid (fun W => isBelow_any kind 2 W)
  rw [decide_eq_true hk] at HIK
  have hn8 := (flt_zero hF).1.2.1.2
  have HLV : Hid (∀ W, Below W0.heap.size W0 W → Calls Tryd.prog 29 #[.pointer (some ⟨b, 0, none⟩), .agg #[.int .i64 wide, .slice aL lys.length cL], .int .i64 (i : Int)] W fun e w' => ∃ ag cg, e = .returned (.agg #[.pointer (some ⟨b, 0, none⟩), .slice ag (lyt lys i).length cg, .int .i64 (bnn wide lys i : Int)]) ∧ LstG W.heap.size W ag cg (lyt lys i) ∧ Below W.heap.size W w') := fun W hW => by
    have hw2 := hb0.trans (hW.mono hb0.size)
    exact levelOf_any b i cL wide aL lys W HFZ.out.1 hi (hl.step hw2) (tabu_below hIT.tab hw2)
  obtain ⟨o1, o2⟩ := HFZ.out.1.own hi
  obtain ⟨_, o4⟩ := HFZ.out.1.bn (i := i + 1) (by omega)
  have HOW : Hid (∀ W ag cg (x y : Value), Below W0.heap.size W0 W → Calls Tryd.prog 30 #[.agg #[x, .slice ag (lyt lys i).length cg, y]] W fun e w' => e = .returned (.int .i64 (bnn wide lys (i + 1) : Int)) ∧ Below W.heap.size W w') := fun W ag cg x y hW => by
    have hw2 := hb0.trans (hW.mono hb0.size)
    exact gown_any x y _ _ cg ag W o4 o1 (tabu_below hIT.tab hw2)
  rw [errz_some (show (2 : Int) ≠ 0 by decide)]
  generalize bnn wide lys (i + 1) = ow at *
  generalize bnn wide lys i = bl at *
  generalize lyt lys i = gs at *
  generalize lys.length = n at *
  generalize gs.length = M at *
  by_cases h1 : nz = ow
  · have k1 : ((nz : Int) != (ow : Int)) = false := by rw [h1]; simp
    by_cases h2 : nx = bl
    · have k2 : ((nx : Int) != (bl : Int)) = false := by rw [h2]; simp
      have k3 : ((ny : Int) != (bl : Int)) = true := by rw [bne_iff_ne]; intro h; exact hs ⟨h1, h2, by omega⟩
      clear hF hB hl hW0 hs0 hz0 hb0 hG hs h1 h2 hIT hi hiB HFZ o1 o2 o4 hk
      go_enter Tryd.func13, Tryd.ntmps13
      go_wp2_with fail
      rw [← HG.out, ← HWG.out]
      clear HWG
      refine HFO.out.mono ?_
      rintro e w1 ⟨rfl, hb1⟩
      rw [errz_nil]
      obtain ⟨d0, d1⟩ := HC.out w1 hb1
      clear c0 c1
      go_wp2_with fail
      refine (HIB.out _).mono ?_
      rintro e w2 ⟨rfl, hw⟩
      have hw1 := hw.symm
      subst hw1
      clear hw
      go_wp2_with fail
      refine (HIK.out _).mono ?_
      rintro e w2 ⟨rfl, hw⟩
      have hw1 := hw.symm
      subst hw1
      clear hw
      go_wp2_with fail
      refine (HLV.out _ hb1).mono ?_
      rintro e w3 ⟨ag, cg, rfl, hg3, hb3⟩
      have hb03 := hb1.trans (hb3.mono hb1.size)
      obtain ⟨W4, hW4⟩ : ∃ W4, W4 = w3.alloc (.cells #[.pointer (some ⟨b, 0, none⟩), .slice ag M cg, .int .i64 (bl : Int)] 64) := ⟨_, rfl⟩
      obtain ⟨hb4, hs4, hz4⟩ := own_blk hW4
      obtain ⟨L, hL⟩ : ∃ L, L = w3.heap.size := ⟨_, rfl⟩
      have HLE := hid hL
      rw [← hL] at hs4
      have hb04 := hb03.trans (hb4.mono hb03.size)
      have HLC : Hid (∀ W, Below W4.heap.size W4 W → W.cell? ⟨L, 0, none⟩ = some (.pointer (some ⟨b, 0, none⟩)) ∧ W.cell? ⟨L, 1, none⟩ = some (.slice ag M cg) ∧ W.cell? ⟨L, 2, none⟩ = some (.int .i64 (bl : Int))) := fun W hW => by
        have e1 := (hW.block L (by omega)).trans hs4
        exact ⟨by simp [World.cell?, e1], by simp [World.cell?, e1], by simp [World.cell?, e1]⟩
      have HOX := hid (HOW.out W4 ag cg (.pointer (some ⟨b, 0, none⟩)) (.int .i64 (bl : Int)) hb04)
      have HB04 := hid hb04
      have HWG4 := hid hW4
      have HG4 : Hid (LstG W4.heap.size W4 ag cg gs) := (hg3.step hb3).step hb4
      clear hg3 hb3 hb03 hb04 hb4 hs4 hz4 hW4 hL hb1
      go_wp2_with fail
      rw [← HWG4.out, ← HLE.out]
      clear HWG4
      obtain ⟨l0, l1, l2⟩ := HLC.out W4 (Below.refl _ _)
      go_wp2_with fail
      refine HOX.out.mono ?_
      rintro e w5 ⟨rfl, hb5⟩
      obtain ⟨m0, m1, m2⟩ := HLC.out w5 hb5
      have HB05 : Hid (Below W0.heap.size W0 w5) := HB04.out.trans (hb5.mono HB04.out.size)
      have HG5 := hid (HG4.out.step hb5)
      clear hb5 l0 l1 l2 HOX
      go_wp2_with fail
      go_ret2
      exact ⟨rfl, HB0.out.trans (HB05.out.mono HB0.out.size)⟩
    · have k2 : ((nx : Int) != (bl : Int)) = true := by rw [bne_iff_ne]; omega
      clear hF hB hl hW0 hs0 hz0 hb0 hG hs h1 h2 hIT hi hiB HFZ o1 o2 o4 hk
      go_enter Tryd.func13, Tryd.ntmps13
      go_wp2_with fail
      rw [← HG.out, ← HWG.out]
      clear HWG
      refine HFO.out.mono ?_
      rintro e w1 ⟨rfl, hb1⟩
      rw [errz_nil]
      obtain ⟨d0, d1⟩ := HC.out w1 hb1
      clear c0 c1
      go_wp2_with fail
      refine (HIB.out _).mono ?_
      rintro e w2 ⟨rfl, hw⟩
      have hw1 := hw.symm
      subst hw1
      clear hw
      go_wp2_with fail
      refine (HIK.out _).mono ?_
      rintro e w2 ⟨rfl, hw⟩
      have hw1 := hw.symm
      subst hw1
      clear hw
      go_wp2_with fail
      refine (HLV.out _ hb1).mono ?_
      rintro e w3 ⟨ag, cg, rfl, hg3, hb3⟩
      have hb03 := hb1.trans (hb3.mono hb1.size)
      obtain ⟨W4, hW4⟩ : ∃ W4, W4 = w3.alloc (.cells #[.pointer (some ⟨b, 0, none⟩), .slice ag M cg, .int .i64 (bl : Int)] 64) := ⟨_, rfl⟩
      obtain ⟨hb4, hs4, hz4⟩ := own_blk hW4
      obtain ⟨L, hL⟩ : ∃ L, L = w3.heap.size := ⟨_, rfl⟩
      have HLE := hid hL
      rw [← hL] at hs4
      have hb04 := hb03.trans (hb4.mono hb03.size)
      have HLC : Hid (∀ W, Below W4.heap.size W4 W → W.cell? ⟨L, 0, none⟩ = some (.pointer (some ⟨b, 0, none⟩)) ∧ W.cell? ⟨L, 1, none⟩ = some (.slice ag M cg) ∧ W.cell? ⟨L, 2, none⟩ = some (.int .i64 (bl : Int))) := fun W hW => by
        have e1 := (hW.block L (by omega)).trans hs4
        exact ⟨by simp [World.cell?, e1], by simp [World.cell?, e1], by simp [World.cell?, e1]⟩
      have HOX := hid (HOW.out W4 ag cg (.pointer (some ⟨b, 0, none⟩)) (.int .i64 (bl : Int)) hb04)
      have HB04 := hid hb04
      have HWG4 := hid hW4
      have HG4 : Hid (LstG W4.heap.size W4 ag cg gs) := (hg3.step hb3).step hb4
      clear hg3 hb3 hb03 hb04 hb4 hs4 hz4 hW4 hL hb1
      go_wp2_with fail
      rw [← HWG4.out, ← HLE.out]
      clear HWG4
      obtain ⟨l0, l1, l2⟩ := HLC.out W4 (Below.refl _ _)
      go_wp2_with fail
      refine HOX.out.mono ?_
      rintro e w5 ⟨rfl, hb5⟩
      obtain ⟨m0, m1, m2⟩ := HLC.out w5 hb5
      have HB05 : Hid (Below W0.heap.size W0 w5) := HB04.out.trans (hb5.mono HB04.out.size)
      have HG5 := hid (HG4.out.step hb5)
      clear hb5 l0 l1 l2 HOX
      go_wp2_with fail
      go_ret2
      exact ⟨rfl, HB0.out.trans (HB05.out.mono HB0.out.size)⟩
  · have k1 : ((nz : Int) != (ow : Int)) = true := by rw [bne_iff_ne]; omega
    clear hF hB hl hW0 hs0 hz0 hb0 hG hs h1 hIT hi hiB HFZ o1 o2 o4 hk
    go_enter Tryd.func13, Tryd.ntmps13
    go_wp2_with fail
    rw [← HG.out, ← HWG.out]
    clear HWG
    refine HFO.out.mono ?_
    rintro e w1 ⟨rfl, hb1⟩
    rw [errz_nil]
    obtain ⟨d0, d1⟩ := HC.out w1 hb1
    clear c0 c1
    go_wp2_with fail
    refine (HIB.out _).mono ?_
    rintro e w2 ⟨rfl, hw⟩
    have hw1 := hw.symm
    subst hw1
    clear hw
    go_wp2_with fail
    refine (HIK.out _).mono ?_
    rintro e w2 ⟨rfl, hw⟩
    have hw1 := hw.symm
    subst hw1
    clear hw
    go_wp2_with fail
    refine (HLV.out _ hb1).mono ?_
    rintro e w3 ⟨ag, cg, rfl, hg3, hb3⟩
    have hb03 := hb1.trans (hb3.mono hb1.size)
    obtain ⟨W4, hW4⟩ : ∃ W4, W4 = w3.alloc (.cells #[.pointer (some ⟨b, 0, none⟩), .slice ag M cg, .int .i64 (bl : Int)] 64) := ⟨_, rfl⟩
    obtain ⟨hb4, hs4, hz4⟩ := own_blk hW4
    obtain ⟨L, hL⟩ : ∃ L, L = w3.heap.size := ⟨_, rfl⟩
    have HLE := hid hL
    rw [← hL] at hs4
    have hb04 := hb03.trans (hb4.mono hb03.size)
    have HLC : Hid (∀ W, Below W4.heap.size W4 W → W.cell? ⟨L, 0, none⟩ = some (.pointer (some ⟨b, 0, none⟩)) ∧ W.cell? ⟨L, 1, none⟩ = some (.slice ag M cg) ∧ W.cell? ⟨L, 2, none⟩ = some (.int .i64 (bl : Int))) := fun W hW => by
      have e1 := (hW.block L (by omega)).trans hs4
      exact ⟨by simp [World.cell?, e1], by simp [World.cell?, e1], by simp [World.cell?, e1]⟩
    have HOX := hid (HOW.out W4 ag cg (.pointer (some ⟨b, 0, none⟩)) (.int .i64 (bl : Int)) hb04)
    have HB04 := hid hb04
    have HWG4 := hid hW4
    have HG4 : Hid (LstG W4.heap.size W4 ag cg gs) := (hg3.step hb3).step hb4
    clear hg3 hb3 hb03 hb04 hb4 hs4 hz4 hW4 hL hb1
    go_wp2_with fail
    rw [← HWG4.out, ← HLE.out]
    clear HWG4
    obtain ⟨l0, l1, l2⟩ := HLC.out W4 (Below.refl _ _)
    go_wp2_with fail
    refine HOX.out.mono ?_
    rintro e w5 ⟨rfl, hb5⟩
    obtain ⟨m0, m1, m2⟩ := HLC.out w5 hb5
    have HB05 : Hid (Below W0.heap.size W0 w5) := HB04.out.trans (hb5.mono HB04.out.size)
    have HG5 := hid (HG4.out.step hb5)
    clear hb5 l0 l1 l2 HOX
    go_wp2_with fail
    go_ret2
    exact ⟨rfl, HB0.out.trans (HB05.out.mono HB0.out.size)⟩

set_option maxRecDepth 100000 in
set_option maxHeartbeats 1000000 in
theorem wireY_any (p b i cL cz cx cy : Nat) (wide kind : Int) (aL az ax ay : Option Addr) (lys : List (List GatZ)) (z x y : List Int) (w : World) (hB : CirB lys) (hl : LstGG w.heap.size w aL cL lys) (hIT : InT p b w) (hF : flt wide lys = 0) (hi : i < lys.length) (hk : 0 ≤ kind ∧ kind < 2) (hz : z.length = bnn wide lys (i + 1)) (hx : x.length = bnn wide lys i) (hy : y.length = bnn wide lys i) (fz : Fits z) (fx : Fits x) (fy : Fits y) (rz : RowB w.heap.size w az z) (rx : RowB w.heap.size w ax x) (ry : RowB w.heap.size w ay y) :
    Calls Tryd.prog 13 #[.pointer (some ⟨b, 0, none⟩), .agg #[.int .i64 wide, .slice aL lys.length cL], .int .i64 (i : Int), .int .i64 kind, .slice az z.length cz, .slice ax x.length cx, .slice ay y.length cy] w fun e w' => e = .returned (.tuple #[.int .i64 (wrz p (lyt lys i) kind z x y), .nilIface]) ∧ Below w.heap.size w w' := by
  obtain ⟨W0, hW0⟩ : ∃ W0, W0 = w.alloc (.cells #[.int .i64 wide, .slice aL lys.length cL] 24) := ⟨_, rfl⟩
  obtain ⟨hb0, hs0, hz0⟩ := own_blk hW0
  obtain ⟨G, hG⟩ : ∃ G, G = w.heap.size := ⟨_, rfl⟩
  rw [← hG] at hs0
  have HC : Hid (∀ W, Below W0.heap.size W0 W → W.cell? ⟨G, 0, none⟩ = some (.int .i64 wide) ∧ W.cell? ⟨G, 1, none⟩ = some (.slice aL lys.length cL)) := fun W hW => by
    have e1 := (hW.block G (Array.getElem?_eq_some_iff.1 hs0).1).trans hs0
    exact ⟨by simp [World.cell?, e1], by simp [World.cell?, e1]⟩
  have HFO := hid (faultOf_any wide cL aL lys W0 hB (hl.step hb0))
  have HB0 := hid hb0
  have HWG := hid hW0
  have HG := hid hG
  obtain ⟨c0, c1⟩ := HC.out W0 (Below.refl _ _)
  have HFZ := hid (flt_zero hF)
  rw [hF] at HFO
  have hiB : (0 ≤ (i : Int) ∧ (i : Int) < (lys.length : Int)) := by omega
  have HIB := hid (fun W => isBelow_any (i : Int) (lys.length : Int) W)
  rw [decide_eq_true hiB] at HIB
  have HIK := hid (fun W => isBelow_any kind 2 W)
  rw [decide_eq_true hk] at HIK
  have hn8 := (flt_zero hF).1.2.1.2
  have HLV : Hid (∀ W, Below W0.heap.size W0 W → Calls Tryd.prog 29 #[.pointer (some ⟨b, 0, none⟩), .agg #[.int .i64 wide, .slice aL lys.length cL], .int .i64 (i : Int)] W fun e w' => ∃ ag cg, e = .returned (.agg #[.pointer (some ⟨b, 0, none⟩), .slice ag (lyt lys i).length cg, .int .i64 (bnn wide lys i : Int)]) ∧ LstG W.heap.size W ag cg (lyt lys i) ∧ Below W.heap.size W w') := fun W hW => by
    have hw2 := hb0.trans (hW.mono hb0.size)
    exact levelOf_any b i cL wide aL lys W HFZ.out.1 hi (hl.step hw2) (tabu_below hIT.tab hw2)
  obtain ⟨o1, o2⟩ := HFZ.out.1.own hi
  obtain ⟨_, o4⟩ := HFZ.out.1.bn (i := i + 1) (by omega)
  have HOW : Hid (∀ W ag cg (x y : Value), Below W0.heap.size W0 W → Calls Tryd.prog 30 #[.agg #[x, .slice ag (lyt lys i).length cg, y]] W fun e w' => e = .returned (.int .i64 (bnn wide lys (i + 1) : Int)) ∧ Below W.heap.size W w') := fun W ag cg x y hW => by
    have hw2 := hb0.trans (hW.mono hb0.size)
    exact gown_any x y _ _ cg ag W o4 o1 (tabu_below hIT.tab hw2)
  obtain ⟨_, o3⟩ := HFZ.out.1.bn (i := i) (by omega)
  have HWR : Hid (∀ W ag cg (q : Value), Below W0.heap.size W0 W → LstG W.heap.size W ag cg (lyt lys i) → Calls Tryd.prog 31 #[.agg #[.pointer (some ⟨b, 0, none⟩), .slice ag (lyt lys i).length cg, q], .int .i64 kind, .slice az z.length cz, .slice ax x.length cx, .slice ay y.length cy] W fun e w' => e = .returned (.int .i64 (wrz p (lyt lys i) kind z x y)) ∧ Below W.heap.size W w') := fun W ag cg q hW hg => by
    have hw2 := hb0.trans (hW.mono hb0.size)
    exact wire_any p b cg cz cx cy q kind ag az ax ay (lyt lys i) z x y W hIT.h3 hIT.hm (hIT.toInF.below hw2).cell (by rw [o1]; exact pow_6 o4) hg (fun k hk => ⟨(HFZ.out.2 i hi k hk).2.1.1, (HFZ.out.2 i hi k hk).2.2.1⟩) (by omega) (by omega) (by omega) fz fx fy ((rz.below hw2).mono hw2.size) ((rx.below hw2).mono hw2.size) ((ry.below hw2).mono hw2.size)
  have k1 : ((z.length : Int) != (bnn wide lys (i + 1) : Int)) = false := by rw [hz]; simp
  have k2 : ((x.length : Int) != (bnn wide lys i : Int)) = false := by rw [hx]; simp
  have k3 : ((y.length : Int) != (bnn wide lys i : Int)) = false := by rw [hy]; simp
  generalize wrz p (lyt lys i) kind z x y = E at *
  generalize bnn wide lys (i + 1) = ow at *
  generalize bnn wide lys i = bl at *
  generalize lyt lys i = gs at *
  generalize lys.length = n at *
  generalize gs.length = M at *
  generalize z.length = nz at *
  generalize x.length = nx at *
  generalize y.length = ny at *
  clear hF hB hl hW0 hs0 hz0 hb0 hG hIT hi hiB HFZ o1 o2 o3 o4 hk hz hx hy fz fx fy rz rx ry
  go_enter Tryd.func13, Tryd.ntmps13
  go_wp2_with fail
  rw [← HG.out, ← HWG.out]
  clear HWG
  refine HFO.out.mono ?_
  rintro e w1 ⟨rfl, hb1⟩
  rw [errz_nil]
  obtain ⟨d0, d1⟩ := HC.out w1 hb1
  clear c0 c1
  go_wp2_with fail
  refine (HIB.out _).mono ?_
  rintro e w2 ⟨rfl, hw⟩
  have hw1 := hw.symm
  subst hw1
  clear hw
  go_wp2_with fail
  refine (HIK.out _).mono ?_
  rintro e w2 ⟨rfl, hw⟩
  have hw1 := hw.symm
  subst hw1
  clear hw
  go_wp2_with fail
  refine (HLV.out _ hb1).mono ?_
  rintro e w3 ⟨ag, cg, rfl, hg3, hb3⟩
  have hb03 := hb1.trans (hb3.mono hb1.size)
  obtain ⟨W4, hW4⟩ : ∃ W4, W4 = w3.alloc (.cells #[.pointer (some ⟨b, 0, none⟩), .slice ag M cg, .int .i64 (bl : Int)] 64) := ⟨_, rfl⟩
  obtain ⟨hb4, hs4, hz4⟩ := own_blk hW4
  obtain ⟨L, hL⟩ : ∃ L, L = w3.heap.size := ⟨_, rfl⟩
  have HLE := hid hL
  rw [← hL] at hs4
  have hb04 := hb03.trans (hb4.mono hb03.size)
  have HLC : Hid (∀ W, Below W4.heap.size W4 W → W.cell? ⟨L, 0, none⟩ = some (.pointer (some ⟨b, 0, none⟩)) ∧ W.cell? ⟨L, 1, none⟩ = some (.slice ag M cg) ∧ W.cell? ⟨L, 2, none⟩ = some (.int .i64 (bl : Int))) := fun W hW => by
    have e1 := (hW.block L (by omega)).trans hs4
    exact ⟨by simp [World.cell?, e1], by simp [World.cell?, e1], by simp [World.cell?, e1]⟩
  have HOX := hid (HOW.out W4 ag cg (.pointer (some ⟨b, 0, none⟩)) (.int .i64 (bl : Int)) hb04)
  have HB04 := hid hb04
  have HWG4 := hid hW4
  have HG4 : Hid (LstG W4.heap.size W4 ag cg gs) := (hg3.step hb3).step hb4
  clear hg3 hb3 hb03 hb04 hb4 hs4 hz4 hW4 hL hb1
  go_wp2_with fail
  rw [← HWG4.out, ← HLE.out]
  clear HWG4
  obtain ⟨l0, l1, l2⟩ := HLC.out W4 (Below.refl _ _)
  go_wp2_with fail
  refine HOX.out.mono ?_
  rintro e w5 ⟨rfl, hb5⟩
  obtain ⟨m0, m1, m2⟩ := HLC.out w5 hb5
  have HB05 : Hid (Below W0.heap.size W0 w5) := HB04.out.trans (hb5.mono HB04.out.size)
  have HG5 := hid (HG4.out.step hb5)
  clear hb5 l0 l1 l2 HOX
  go_wp2_with fail
  refine (HWR.out w5 ag cg _ HB05.out HG5.out).mono ?_
  rintro e w6 ⟨rfl, hb6⟩
  have HE : Hid (Below w.heap.size w w6) := HB0.out.trans ((HB05.out.trans (hb6.mono HB05.out.size)).mono HB0.out.size)
  clear hb6
  go_wp2_with fail
  go_ret2
  exact ⟨rfl, HE.out⟩

end Go.Proofs.YtaapbopcfpihbaaDoor
