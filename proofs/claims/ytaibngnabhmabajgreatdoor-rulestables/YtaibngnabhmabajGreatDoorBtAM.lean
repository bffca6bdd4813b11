/- Package machine: begun. Package machine: wrong. Package machine: what walked defers. -/
import Derived.Test.YtaibngnabhmabajGreatDoorBtAL
import Derived.Test.YtaibngnabhmabajGreatDoorFld
import Derived.Defers
import Derived.Recover
namespace Go.Proofs.YtaibngnabhmabajGreatDoor
open Go.RowKit Go.Maps

theorem cmap_nil : CMap (.map []) [] := fun _ _ => ⟨rfl, rfl⟩
/-- a map of one entry: cell 0 is 0 -/
theorem map_first (V : World) (M : Nat) (h0 : V.ownsMap Tryz.prog 3 (plainElem (H := Unit) Tryz.prog 3) M 0 (.map [])) : ∃ w1, (Instr.mapUpdate 130 (.map (some M)) (.int .i64 0) (.int .i64 0)).run Tryz.prog V = .ok () w1 ∧ MapAt w1 M 1 [(0, 0)] ∧ V.grownBy w1 (some M) := by
  obtain ⟨w1, h1, h2, h3⟩ := h0.update keyI Tryz.underlying130 (by decide) (key64 (x := 0) ⟨by decide, by decide⟩) (plainElem_int (H := Unit) Tryz.underlying3 (WalkArith.wf_i64 (n := 0) ⟨by decide, by decide⟩))
  refine ⟨w1, h1, ⟨_, h2, ?_⟩, h3⟩
  exact cmap_put (x := 0) (y := 0) cmap_nil h0.isMap (fun h => absurd h (by decide))

set_option maxRecDepth 100000 in
set_option maxHeartbeats 2000000 in
theorem pbegun_any (p b : Nat) (size : Int) (aL : Option Addr) (nL cL : Nat) (w : World) (h3 : 3 ≤ p) (h4 : p ≤ 2147483647) (hp : w.cell? ⟨b, 0, none⟩ = some (.int .i64 p)) (hs : 0 ≤ size ∧ size ≤ 65536) :
    Calls Tryz.prog 85 #[.pointer (some ⟨b, 0, none⟩), .agg #[.int .i64 size, .slice aL nL cL]] w fun e w' => ∃ R B, e = .returned (.pointer (some ⟨R, 0, none⟩)) ∧ RnAt w' R b B aL nL cL ⟨0, 1, (1 + size) % (p : Int), 0⟩ ∧ MapAt w' B 1 [(0, 0)] ∧ w.heap.size ≤ R ∧ w.heap.size ≤ B ∧ Below w.heap.size w w' := by
  have hmm := @run_makeMap Tryz.prog
  obtain ⟨W0, hW0⟩ : ∃ W0, W0 = w.alloc (.cells #[.int .i64 size, .slice aL nL cL] 47) := ⟨_, rfl⟩
  have hb0 : Below w.heap.size w W0 := by rw [hW0]; exact (Below.refl _ _).alloc (Nat.le_refl _) _
  obtain ⟨C, hC⟩ : ∃ C, C = w.heap.size := ⟨_, rfl⟩
  have hc0 : W0.heap[C]? = some (.cells #[.int .i64 size, .slice aL nL cL] 47 (0, 0)) := by rw [hC, hW0]; exact heap_alloc_new w _
  have c0 : W0.cell? ⟨C, 0, none⟩ = some (.int .i64 size) := by simp [World.cell?, hc0]
  have c1 : W0.cell? ⟨C, 1, none⟩ = some (.slice aL nL cL) := by simp [World.cell?, hc0]
  have hp0 := (hb0.cell (p := ⟨b, 0, none⟩) (World.block_lt_of_cell? _ _ hp)).trans hp
  have HKP : Hid (∀ W, Below W0.heap.size W0 W → (fun W => W.cell? ⟨C, 0, none⟩ = some (.int .i64 size) ∧ W.cell? ⟨C, 1, none⟩ = some (.slice aL nL cL)) W) := fun W hb => ⟨(hb.cell (p := ⟨C, 0, none⟩) (World.block_lt_of_cell? _ _ c0)).trans c0, (hb.cell (p := ⟨C, 1, none⟩) (World.block_lt_of_cell? _ _ c1)).trans c1⟩
  obtain ⟨z, hz⟩ : ∃ z, z = (1 + size) % (p : Int) := ⟨_, rfl⟩
  have HAD : Hid (∀ W, Below W0.heap.size W0 W → Calls Tryz.prog 126 #[.pointer (some ⟨b, 0, none⟩), .int .i64 1, .int .i64 size] W fun e w' => e = .returned (.int .i64 z) ∧ w' = W) := fun W hb => by
    rw [hz]
    exact add_any p b 1 size W h3 h4 ((hb.cell (p := ⟨b, 0, none⟩) (World.block_lt_of_cell? _ _ hp0)).trans hp0) (by decide) (by decide) (by omega) (by omega)
  have HB0 := hid hb0
  have HCC := hid hC
  rw [← hz]
  clear hz hp hp0 hc0 hb0 hs h3 h4
  go_enter Tryz.func85, Tryz.ntmps85
  go_wp2_with fail
  rw [← hW0, ← hC]
  clear hW0 hC
  have hbd : Below W0.heap.size W0 W0.drew := ⟨rfl, rfl, rfl, Nat.le_refl _, fun _ _ => rfl⟩
  refine wp_region_held_drew (S := (fun W => W.cell? ⟨C, 0, none⟩ = some (.int .i64 size) ∧ W.cell? ⟨C, 1, none⟩ = some (.slice aL nL cL))) (by kernel_rfl) ⟨c0, c1⟩ (fun hHeld => ?_)
  refine wpAnyH_takeW (i := 0) (v := .pointer (some ⟨b, 0, none⟩)) rfl (by kernel_rfl) (by kernel_rfl) (by kernel_rfl) (fun _ _ _ h => h) (by rfl) (fun W hC => by (obtain ⟨y0, y1⟩ := hC); go_simp) hHeld ?_
  simp only [Act.put, List.setIfInBounds_toArray, List.set_cons_zero, List.set_cons_succ]
  refine wpAnyH_takeW (i := 1) (v := .pointer (some ⟨C, 1, none⟩)) rfl (by kernel_rfl) (by kernel_rfl) (by kernel_rfl) (fun _ _ _ h => h) (by rfl) (fun W hC => by (obtain ⟨y0, y1⟩ := hC); go_simp) hHeld ?_
  simp only [Act.put, List.setIfInBounds_toArray, List.set_cons_zero, List.set_cons_succ]
  refine wpAnyH_takeW (i := 2) (v := .slice aL nL cL) rfl (by kernel_rfl) (by kernel_rfl) (by kernel_rfl) (fun _ _ _ h => h) (by rfl) (fun W hC => by (obtain ⟨y0, y1⟩ := hC); go_simp) hHeld ?_
  simp only [Act.put, List.setIfInBounds_toArray, List.set_cons_zero, List.set_cons_succ]
  refine wpAnyH_takeW (i := 6) (v := .pointer (some ⟨b, 0, none⟩)) rfl (by kernel_rfl) (by kernel_rfl) (by kernel_rfl) (fun _ _ _ h => h) (by rfl) (fun W hC => by (obtain ⟨y0, y1⟩ := hC); go_simp) hHeld ?_
  simp only [Act.put, List.setIfInBounds_toArray, List.set_cons_zero, List.set_cons_succ]
  refine wpAnyH_takeW (i := 7) (v := .pointer (some ⟨C, 0, none⟩)) rfl (by kernel_rfl) (by kernel_rfl) (by kernel_rfl) (fun _ _ _ h => h) (by rfl) (fun W hC => by (obtain ⟨y0, y1⟩ := hC); go_simp) hHeld ?_
  simp only [Act.put, List.setIfInBounds_toArray, List.set_cons_zero, List.set_cons_succ]
  refine wpAnyH_takeW (i := 8) (v := .int .i64 size) rfl (by kernel_rfl) (by kernel_rfl) (by kernel_rfl) (fun _ _ _ h => h) (by rfl) (fun W hC => by (obtain ⟨y0, y1⟩ := hC); go_simp) hHeld ?_
  simp only [Act.put, List.setIfInBounds_toArray, List.set_cons_zero, List.set_cons_succ]
  have hbm : Below W0.heap.size W0 (W0.alloc (.map #[] 0)).drew := ((Below.refl W0.heap.size W0).alloc (Nat.le_refl _) (.map #[] 0)).drew
  obtain ⟨w1, hrun, hma, hgr⟩ := map_first (W0.alloc (.map #[] 0)).drew W0.heap.size (World.ownsMap_made (H := Unit) W0 Tryz.prog 3 (plainElem Tryz.prog 3)).drew
  have hb1 : Below W0.heap.size W0 w1 := hbm.trans (gb_toM hgr (Nat.le_refl _) hbm.size)
  refine share (F := ?F) (Good := fun M W => Below W0.heap.size W0 W ∧ MapAt W M 1 [(0, 0)] ∧ W0.heap.size ≤ M) (fun REST => ?b1) ?b2
  case b1 =>
    refine wpAnyH_ready (rs := [3, 9]) (by kernel_rfl) (by simp) ?_
    refine AllReadyH.consW rfl (fun K hK => ?_) (AllReadyH.consW rfl (fun K hK => ?_) AllReadyH.nil)
    · go_simp
      refine hK.out _ _ (HKP.out _ hbm) (fun hHeld => ?_)
      clear hK K
      refine wpAnyH_ready (rs := [4, 9]) (by kernel_rfl) (by simp) ?_
      refine AllReadyH.consW rfl (fun K hK => ?_) (AllReadyH.consW rfl (fun K hK => ?_) AllReadyH.nil)
      · go_simp
        refine hK.out _ _ (HKP.out _ hb1) (fun hHeld => ?_)
        clear hK K
        refine wpAnyH_takeW (i := 5) (v := .map (some W0.heap.size)) rfl (by kernel_rfl) (by kernel_rfl) (by kernel_rfl) (fun _ _ _ h => h) (by rfl) (fun W hC => by (obtain ⟨y0, y1⟩ := hC); go_simp) hHeld ?_
        simp only [Act.put, List.setIfInBounds_toArray, List.set_cons_zero, List.set_cons_succ]
        refine wpAnyH_ready (rs := [9]) (by kernel_rfl) (by simp) ?_
        refine AllReadyH.consW rfl (fun K hK => ?_) AllReadyH.nil
        go_simp
        refine (HAD.out _ hb1).mono ?_
        rintro e wa ⟨rfl, hwa⟩
        rw [hwa]
        clear hwa wa
        refine hK.out _ _ (HKP.out _ hb1) (fun hHeld => ?_)
        clear hK K hHeld
        have hma2 : MapAt w1 W0.heap.size 1 [(0, 0)] := hma
        generalize hM : W0.heap.size = M at hma2 ⊢
        exact REST M w1 ⟨hb1, hma2, Nat.le_of_eq hM⟩
      · go_simp
        refine (HAD.out _ hbm).mono ?_
        rintro e wa ⟨rfl, hwa⟩
        rw [hwa]
        clear hwa wa
        refine hK.out _ _ (HKP.out _ hbm) (fun hHeld => ?_)
        clear hK K
        refine wpAnyH_ready (rs := [4]) (by kernel_rfl) (by simp) ?_
        refine AllReadyH.consW rfl (fun K hK => ?_) AllReadyH.nil
        go_simp
        refine hK.out _ _ (HKP.out _ hb1) (fun hHeld => ?_)
        clear hK K
        refine wpAnyH_takeW (i := 5) (v := .map (some W0.heap.size)) rfl (by kernel_rfl) (by kernel_rfl) (by kernel_rfl) (fun _ _ _ h => h) (by rfl) (fun W hC => by (obtain ⟨y0, y1⟩ := hC); go_simp) hHeld ?_
        simp only [Act.put, List.setIfInBounds_toArray, List.set_cons_zero, List.set_cons_succ]
        exact REST W0.heap.size w1 ⟨hb1, hma, Nat.le_refl _⟩
    · go_simp
      refine (HAD.out _ hbd).mono ?_
      rintro e wa ⟨rfl, hwa⟩
      rw [hwa]
      clear hwa wa
      refine hK.out _ _ (HKP.out _ hbd) (fun hHeld => ?_)
      clear hK K
      refine wpAnyH_ready (rs := [3]) (by kernel_rfl) (by simp) ?_
      refine AllReadyH.consW rfl (fun K hK => ?_) AllReadyH.nil
      go_simp
      refine hK.out _ _ (HKP.out _ hbm) (fun hHeld => ?_)
      clear hK K
      refine wpAnyH_ready (rs := [4]) (by kernel_rfl) (by simp) ?_
      refine AllReadyH.consW rfl (fun K hK => ?_) AllReadyH.nil
      go_simp
      refine hK.out _ _ (HKP.out _ hb1) (fun hHeld => ?_)
      clear hK K
      refine wpAnyH_takeW (i := 5) (v := .map (some W0.heap.size)) rfl (by kernel_rfl) (by kernel_rfl) (by kernel_rfl) (fun _ _ _ h => h) (by rfl) (fun W hC => by (obtain ⟨y0, y1⟩ := hC); go_simp) hHeld ?_
      simp only [Act.put, List.setIfInBounds_toArray, List.set_cons_zero, List.set_cons_succ]
      exact REST W0.heap.size w1 ⟨hb1, hma, Nat.le_refl _⟩
  case b2 =>
    rintro M W ⟨hbW, hmW, hMs⟩
    have hHeld := HKP.out W hbW
    refine wpAnyH_takeW (i := 10) (v := .agg #[.pointer (some ⟨b, 0, none⟩), .slice aL nL cL, .map (some M), .int .i64 0, .int .i64 1, .int .i64 z, .int .i64 0]) rfl (by kernel_rfl) (by kernel_rfl) (by kernel_rfl) (fun _ _ _ h => h) (by rfl) (fun W hC => by (obtain ⟨y0, y1⟩ := hC); go_simp) hHeld ?_
    simp only [Act.put, List.setIfInBounds_toArray, List.set_cons_zero, List.set_cons_succ]
    have hba := hbW.trans (((Below.refl W.heap.size W).alloc (Nat.le_refl _) (.cells #[.pointer (some ⟨b, 0, none⟩), .slice aL nL cL, .map (some M), .int .i64 0, .int .i64 1, .int .i64 z, .int .i64 0] 198)).mono hbW.size)
    have HEND : Hid (RnAt (W.alloc (.cells #[.pointer (some ⟨b, 0, none⟩), .slice aL nL cL, .map (some M), .int .i64 0, .int .i64 1, .int .i64 z, .int .i64 0] 198)) W.heap.size b M aL nL cL ⟨0, 1, z, 0⟩ ∧ MapAt (W.alloc (.cells #[.pointer (some ⟨b, 0, none⟩), .slice aL nL cL, .map (some M), .int .i64 0, .int .i64 1, .int .i64 z, .int .i64 0] 198)) M 1 [(0, 0)] ∧ w.heap.size ≤ W.heap.size ∧ w.heap.size ≤ M ∧ Below w.heap.size w (W.alloc (.cells #[.pointer (some ⟨b, 0, none⟩), .slice aL nL cL, .map (some M), .int .i64 0, .int .i64 1, .int .i64 z, .int .i64 0] 198))) := by
      have h1 := HB0.out.size
      have h2 := hbW.size
      refine ⟨row_newM W _ _ 7 _ rfl (fun i hi => by rcases seven hi with rfl | rfl | rfl | rfl | rfl | rfl | rfl <;> rfl), ?_, by omega, by omega, HB0.out.trans (hba.mono HB0.out.size)⟩
      obtain ⟨D, d1, d2⟩ := hmW
      exact ⟨D, d1.alloc _, d2⟩
    refine wpAnyH_ready (rs := [11]) (by kernel_rfl) (by simp) ?_
    refine AllReadyH.consW rfl (fun K hK => ?_) AllReadyH.nil
    go_simp
    refine hK.out _ _ (HKP.out _ hba) (fun hHeld => ?_)
    clear hK K
    refine wpAnyH_takeW (i := 12) (v := .pointer (some ⟨W.heap.size, 0, none⟩)) rfl (by kernel_rfl) (by kernel_rfl) (by kernel_rfl) (fun _ _ _ h => h) (by rfl) (fun W hC => by (obtain ⟨y0, y1⟩ := hC); go_simp) hHeld ?_
    simp only [Act.put, List.setIfInBounds_toArray, List.set_cons_zero, List.set_cons_succ]
    refine wpAnyH_done (by kernel_rfl) ?_ _
    clear hHeld hba hbW hmW hMs HKP HAD hma hgr hb1 hbm hrun
    go_wp2_with fail
    go_ret
    exact ⟨W.heap.size, M, rfl, HEND.out.1, HEND.out.2.1, HEND.out.2.2.1, HEND.out.2.2.2.1, HEND.out.2.2.2.2⟩

end Go.Proofs.YtaibngnabhmabajGreatDoor

namespace Go.Proofs.YtaibngnabhmabajGreatDoor
open Go.RowKit Go.Maps

/-- an error, or none -/
def errV (z : Int) : Value := if z = 0 then .nilIface else .iface 80 (.int .i64 z)
set_option maxRecDepth 100000 in
set_option maxHeartbeats 2000000 in
theorem pwrong_any (p b : Nat) (size limit : Int) (aL : Option Addr) (nL cL : Nat) (w : World) (hp : w.cell? ⟨b, 0, none⟩ = some (.int .i64 p)) (hn : nL ≤ 281474976710656) :
    Calls Tryz.prog 83 #[.pointer (some ⟨b, 0, none⟩), .agg #[.int .i64 size, .slice aL nL cL], .int .i64 limit] w fun e w' => e = .returned (errV (fz6 (p : Int) size nL limit)) ∧ Below w.heap.size w w' := by
  have hmx : Tryz.prog.follows .mixedOrders = true := by kernel_rfl
  obtain ⟨W0, hW0⟩ : ∃ W0, W0 = w.alloc (.cells #[.int .i64 size, .slice aL nL cL] 47) := ⟨_, rfl⟩
  have hb0 : Below w.heap.size w W0 := by rw [hW0]; exact (Below.refl _ _).alloc (Nat.le_refl _) _
  obtain ⟨C, hC⟩ : ∃ C, C = w.heap.size := ⟨_, rfl⟩
  have hc0 : W0.heap[C]? = some (.cells #[.int .i64 size, .slice aL nL cL] 47 (0, 0)) := by rw [hC, hW0]; exact heap_alloc_new w _
  have c0 : W0.cell? ⟨C, 0, none⟩ = some (.int .i64 size) := by simp [World.cell?, hc0]
  have c1 : W0.cell? ⟨C, 1, none⟩ = some (.slice aL nL cL) := by simp [World.cell?, hc0]
  have hp0 := (hb0.cell (p := ⟨b, 0, none⟩) (World.block_lt_of_cell? _ _ hp)).trans hp
  have HPC := hid (p_any p b W0.drew hp0)
  have HB0 := hid hb0
  obtain ⟨z, hz⟩ : ∃ z, z = fz6 (p : Int) size nL limit := ⟨_, rfl⟩
  have HZ := hid hz
  rw [← hz]
  clear hz hp hp0 hc0 hb0
  by_cases h1 : size < 0 ∨ 65536 < size
  · have HE : Hid (z = 2) := by unfold Hid; rw [HZ.out, fz6, if_pos (by omega)]
    by_cases h2 : size < 0
    · clear h1
      go_enter Tryz.func83, Tryz.ntmps83
      go_wp2_with fail
      rw [← hW0]
      go_ret
      exact ⟨by rw [HE.out]; rfl, HB0.out⟩
    · have h3 : 65536 < size := by omega
      clear h1
      go_enter Tryz.func83, Tryz.ntmps83
      go_wp2_with fail
      rw [← hW0]
      go_ret
      exact ⟨by rw [HE.out]; rfl, HB0.out⟩
  · have h2 : ¬ size < 0 := by omega
    have h3 : ¬ 65536 < size := by omega
    clear h1
    by_cases h4 : nL = 0 ∨ 4096 < nL
    · have HE : Hid (z = 2) := by unfold Hid; rw [HZ.out, fz6, if_pos (by omega)]
      by_cases h5 : nL = 0
      · have q1 : ((nL : Int) == 0) = true := by rw [h5]; rfl
        clear h4 h5
        go_enter Tryz.func83, Tryz.ntmps83
        go_wp2_with fail
        rw [← hW0, ← hC]
        clear hW0 hC
        go_quiet (fail)
        go_wp2_with fail
        go_ret
        exact ⟨by rw [HE.out]; rfl, HB0.out.trans ((belM W0 nq).mono HB0.out.size)⟩
      · have q1 : ((nL : Int) == 0) = false := by rw [beq_eq_false_iff_ne]; omega
        have q2 : 4096 < (nL : Int) := by omega
        clear h4 h5
        go_enter Tryz.func83, Tryz.ntmps83
        go_wp2_with fail
        rw [← hW0, ← hC]
        clear hW0 hC
        go_quiet (fail)
        go_wp2_with fail
        go_ret
        exact ⟨by rw [HE.out]; rfl, HB0.out.trans ((belM W0 nq).mono HB0.out.size)⟩
    · have q1 : ((nL : Int) == 0) = false := by rw [beq_eq_false_iff_ne]; omega
      have q2 : ¬ 4096 < (nL : Int) := by omega
      by_cases h5 : (p : Int) < (nL : Int)
      · have HE : Hid (z = 2) := by unfold Hid; rw [HZ.out, fz6, if_pos (by omega)]
        clear h4
        go_enter Tryz.func83, Tryz.ntmps83
        go_wp2_with fail
        rw [← hW0, ← hC]
        clear hW0 hC
        refine wp_region_still_lit hmx (by kernel_rfl) ?_
        repeat still_step
        still_call HPC.out
        repeat still_step
        refine wpStill_nil ?_
        go_wp2_with fail
        go_ret
        exact ⟨by rw [HE.out]; rfl, HB0.out.drew⟩
      · have h6 : ¬ (p : Int) < (nL : Int) := h5
        have HNF : Hid (¬ (size < 0 ∨ 65536 < size ∨ nL = 0 ∨ 4096 < nL ∨ (p : Int) < (nL : Int))) := by unfold Hid; omega
        clear h5 h4
        by_cases h7 : limit < 0 ∨ 16384 < limit
        · have HE : Hid (z = 3) := by unfold Hid; rw [HZ.out, fz6, if_neg HNF.out, if_pos h7]
          by_cases h8 : limit < 0
          · clear h7
            go_enter Tryz.func83, Tryz.ntmps83
            go_wp2_with fail
            rw [← hW0, ← hC]
            clear hW0 hC
            refine wp_region_still_lit hmx (by kernel_rfl) ?_
            repeat still_step
            still_call HPC.out
            repeat still_step
            refine wpStill_nil ?_
            go_wp2_with fail
            go_ret
            exact ⟨by rw [HE.out]; rfl, HB0.out.drew⟩
          · have h9 : 16384 < limit := by omega
            clear h7
            go_enter Tryz.func83, Tryz.ntmps83
            go_wp2_with fail
            rw [← hW0, ← hC]
            clear hW0 hC
            refine wp_region_still_lit hmx (by kernel_rfl) ?_
            repeat still_step
            still_call HPC.out
            repeat still_step
            refine wpStill_nil ?_
            go_wp2_with fail
            go_ret
            exact ⟨by rw [HE.out]; rfl, HB0.out.drew⟩
        · have HE : Hid (z = 0) := by unfold Hid; rw [HZ.out, fz6, if_neg HNF.out, if_neg h7]
          have h8 : ¬ limit < 0 := by omega
          have h9 : ¬ 16384 < limit := by omega
          clear h7
          go_enter Tryz.func83, Tryz.ntmps83
          go_wp2_with fail
          rw [← hW0, ← hC]
          clear hW0 hC
          refine wp_region_still_lit hmx (by kernel_rfl) ?_
          repeat still_step
          still_call HPC.out
          repeat still_step
          refine wpStill_nil ?_
          go_wp2_with fail
          go_ret
          exact ⟨by rw [HE.out]; rfl, HB0.out.drew⟩

end Go.Proofs.YtaibngnabhmabajGreatDoor

namespace Go.Proofs.YtaibngnabhmabajGreatDoor
open Go.RowKit Go.Maps

theorem fr23 (a b c v : Value) : (#[a, b, c] ++ (Array.replicate 20 undef).setIfInBounds 5 v : Array Value) = #[a, b, c, undef, undef, undef, undef, undef, v, undef, undef, undef, undef, undef, undef, undef, undef, undef, undef, undef, undef, undef, undef] := by kernel_rfl
theorem eq_nil (w : World) : (binOp BinOp.eql 20 .nilIface .nilIface).run Tryz.prog w = .ok (.bool true) w := by kernel_rfl

set_option maxRecDepth 100000 in
set_option maxHeartbeats 400000 in
theorem catch_idle (p q r : Addr) (w : World) :
    CallsD Tryz.prog 84 #[.pointer (some p), .pointer (some q), .pointer (some r)] .returning w fun e u' w' => e = .returned (.tuple #[]) ∧ u' = .returning ∧ w' = w := by
  refine callsD_of_wpS Tryz.func84 rfl fun c₀ cs hu => ?_
  have hnil := eq_nil
  apply wpS_seq
  apply wpS_region
  simp [wpOpsS, go_sem, recoverD, hu, Tryz.ntmps84, Exit.thenS]
  rw [fr23]
  refine wpS_of_wp ?_
  go_wp2_with fail
  cases c₀
  simp_all [bodyPostS, results, Tryz.results84]

theorem frozen_alloc_old (w : World) (o : Obj) {p : Addr} (h : p.block < w.heap.size) : (w.alloc o).frozen? p = w.frozen? p := by
  have e : (w.alloc o).heap[p.block]? = w.heap[p.block]? := heap_alloc_old w o h
  unfold World.frozen?
  rw [e]
theorem ne_nil (T : TypeId) (w : World) : (binOp BinOp.eql 20 (.iface T (.agg #[])) .nilIface).run Tryz.prog w = .ok (.bool false) w := by kernel_rfl
theorem ta_blank_blank (w : World) : (Instr.typeAssert (.iface 191 (.agg #[])) 20 191 true).run Tryz.prog w = .ok (.tuple #[.agg #[], .bool true]) w := by kernel_rfl
theorem ta_blank_stuck (w : World) : (Instr.typeAssert (.iface 191 (.agg #[])) 20 192 true).run Tryz.prog w = .ok (.tuple #[.agg #[], .bool false]) w := by kernel_rfl
theorem ta_blank_long (w : World) : (Instr.typeAssert (.iface 191 (.agg #[])) 20 193 true).run Tryz.prog w = .ok (.tuple #[.agg #[], .bool false]) w := by kernel_rfl
theorem ta_stuck_blank (w : World) : (Instr.typeAssert (.iface 192 (.agg #[])) 20 191 true).run Tryz.prog w = .ok (.tuple #[.agg #[], .bool false]) w := by kernel_rfl
theorem ta_stuck_stuck (w : World) : (Instr.typeAssert (.iface 192 (.agg #[])) 20 192 true).run Tryz.prog w = .ok (.tuple #[.agg #[], .bool true]) w := by kernel_rfl
theorem ta_stuck_long (w : World) : (Instr.typeAssert (.iface 192 (.agg #[])) 20 193 true).run Tryz.prog w = .ok (.tuple #[.agg #[], .bool false]) w := by kernel_rfl
theorem ta_long_blank (w : World) : (Instr.typeAssert (.iface 193 (.agg #[])) 20 191 true).run Tryz.prog w = .ok (.tuple #[.agg #[], .bool false]) w := by kernel_rfl
theorem ta_long_stuck (w : World) : (Instr.typeAssert (.iface 193 (.agg #[])) 20 192 true).run Tryz.prog w = .ok (.tuple #[.agg #[], .bool false]) w := by kernel_rfl
theorem ta_long_long (w : World) : (Instr.typeAssert (.iface 193 (.agg #[])) 20 193 true).run Tryz.prog w = .ok (.tuple #[.agg #[], .bool true]) w := by kernel_rfl

set_option maxRecDepth 100000 in
set_option maxHeartbeats 400000 in
theorem catch_blank (P Q R : Nat) (a b c : Value) (w : World) (h1 : w.cell? ⟨P, 0, none⟩ = some a) (h2 : w.cell? ⟨Q, 0, none⟩ = some b) (h3 : w.cell? ⟨R, 0, none⟩ = some c) (f1 : w.frozen? ⟨P, 0, none⟩ = false) (f2 : w.frozen? ⟨Q, 0, none⟩ = false) (f3 : w.frozen? ⟨R, 0, none⟩ = false) (hPQ : P ≠ Q) (hPR : P ≠ R) (hQR : Q ≠ R) :
    CallsD Tryz.prog 84 #[.pointer (some ⟨P, 0, none⟩), .pointer (some ⟨Q, 0, none⟩), .pointer (some ⟨R, 0, none⟩)] (.panicking [{ v := .iface 191 (.agg #[]), recovered := false }]) w fun e u' w' => e = .returned (.tuple #[]) ∧ u' = .panicking [{ v := .iface 191 (.agg #[]), recovered := true }] ∧ w' = ((((w.alloc (.cells #[] 191)).setCell ⟨P, 0, none⟩ (.slice none 0 0)).setCell ⟨Q, 0, none⟩ (.map none)).setCell ⟨R, 0, none⟩ (.iface 80 (.int .i64 10))) := by
  refine callsD_of_wpS Tryz.func84 rfl fun c₀ cs hu => ?_
  have hnil := ne_nil
  have ta_blank := ta_blank_blank
  have ta_stuck := ta_blank_stuck
  have ta_long := ta_blank_long
  have k1 : (w.alloc (.cells #[] 191)).cell? ⟨P, 0, none⟩ = some a := (((Below.refl w.heap.size w).alloc (Nat.le_refl _) _).cell (p := ⟨P, 0, none⟩) (World.block_lt_of_cell? _ _ h1)).trans h1
  have m1 : (w.alloc (.cells #[] 191)).frozen? ⟨P, 0, none⟩ = false := by rw [frozen_alloc_old w _ (World.block_lt_of_cell? _ _ h1)]; exact f1
  have k2 : (w.alloc (.cells #[] 191)).cell? ⟨Q, 0, none⟩ = some b := (((Below.refl w.heap.size w).alloc (Nat.le_refl _) _).cell (p := ⟨Q, 0, none⟩) (World.block_lt_of_cell? _ _ h2)).trans h2
  have m2 : (w.alloc (.cells #[] 191)).frozen? ⟨Q, 0, none⟩ = false := by rw [frozen_alloc_old w _ (World.block_lt_of_cell? _ _ h2)]; exact f2
  have k3 : (w.alloc (.cells #[] 191)).cell? ⟨R, 0, none⟩ = some c := (((Below.refl w.heap.size w).alloc (Nat.le_refl _) _).cell (p := ⟨R, 0, none⟩) (World.block_lt_of_cell? _ _ h3)).trans h3
  have m3 : (w.alloc (.cells #[] 191)).frozen? ⟨R, 0, none⟩ = false := by rw [frozen_alloc_old w _ (World.block_lt_of_cell? _ _ h3)]; exact f3
  clear h1 h2 h3 f1 f2 f3
  apply wpS_seq
  apply wpS_region
  simp [wpOpsS, go_sem, recoverD, hu, Tryz.ntmps84, Exit.thenS]
  rw [fr23]
  refine wpS_of_wp ?_
  go_wp2_with fail
  simp [bodyPostS, results, Tryz.results84]

set_option maxRecDepth 100000 in
set_option maxHeartbeats 400000 in
theorem catch_stuck (P Q R : Nat) (a b c : Value) (w : World) (h1 : w.cell? ⟨P, 0, none⟩ = some a) (h2 : w.cell? ⟨Q, 0, none⟩ = some b) (h3 : w.cell? ⟨R, 0, none⟩ = some c) (f1 : w.frozen? ⟨P, 0, none⟩ = false) (f2 : w.frozen? ⟨Q, 0, none⟩ = false) (f3 : w.frozen? ⟨R, 0, none⟩ = false) (hPQ : P ≠ Q) (hPR : P ≠ R) (hQR : Q ≠ R) :
    CallsD Tryz.prog 84 #[.pointer (some ⟨P, 0, none⟩), .pointer (some ⟨Q, 0, none⟩), .pointer (some ⟨R, 0, none⟩)] (.panicking [{ v := .iface 192 (.agg #[]), recovered := false }]) w fun e u' w' => e = .returned (.tuple #[]) ∧ u' = .panicking [{ v := .iface 192 (.agg #[]), recovered := true }] ∧ w' = ((((w.alloc (.cells #[] 192)).setCell ⟨P, 0, none⟩ (.slice none 0 0)).setCell ⟨Q, 0, none⟩ (.map none)).setCell ⟨R, 0, none⟩ (.iface 80 (.int .i64 7))) := by
  refine callsD_of_wpS Tryz.func84 rfl fun c₀ cs hu => ?_
  have hnil := ne_nil
  have ta_blank := ta_stuck_blank
  have ta_stuck := ta_stuck_stuck
  have ta_long := ta_stuck_long
  have k1 : (w.alloc (.cells #[] 192)).cell? ⟨P, 0, none⟩ = some a := (((Below.refl w.heap.size w).alloc (Nat.le_refl _) _).cell (p := ⟨P, 0, none⟩) (World.block_lt_of_cell? _ _ h1)).trans h1
  have m1 : (w.alloc (.cells #[] 192)).frozen? ⟨P, 0, none⟩ = false := by rw [frozen_alloc_old w _ (World.block_lt_of_cell? _ _ h1)]; exact f1
  have k2 : (w.alloc (.cells #[] 192)).cell? ⟨Q, 0, none⟩ = some b := (((Below.refl w.heap.size w).alloc (Nat.le_refl _) _).cell (p := ⟨Q, 0, none⟩) (World.block_lt_of_cell? _ _ h2)).trans h2
  have m2 : (w.alloc (.cells #[] 192)).frozen? ⟨Q, 0, none⟩ = false := by rw [frozen_alloc_old w _ (World.block_lt_of_cell? _ _ h2)]; exact f2
  have k3 : (w.alloc (.cells #[] 192)).cell? ⟨R, 0, none⟩ = some c := (((Below.refl w.heap.size w).alloc (Nat.le_refl _) _).cell (p := ⟨R, 0, none⟩) (World.block_lt_of_cell? _ _ h3)).trans h3
  have m3 : (w.alloc (.cells #[] 192)).frozen? ⟨R, 0, none⟩ = false := by rw [frozen_alloc_old w _ (World.block_lt_of_cell? _ _ h3)]; exact f3
  clear h1 h2 h3 f1 f2 f3
  apply wpS_seq
  apply wpS_region
  simp [wpOpsS, go_sem, recoverD, hu, Tryz.ntmps84, Exit.thenS]
  rw [fr23]
  refine wpS_of_wp ?_
  go_wp2_with fail
  simp [bodyPostS, results, Tryz.results84]

set_option maxRecDepth 100000 in
set_option maxHeartbeats 400000 in
theorem catch_long (P Q R : Nat) (a b c : Value) (w : World) (h1 : w.cell? ⟨P, 0, none⟩ = some a) (h2 : w.cell? ⟨Q, 0, none⟩ = some b) (h3 : w.cell? ⟨R, 0, none⟩ = some c) (f1 : w.frozen? ⟨P, 0, none⟩ = false) (f2 : w.frozen? ⟨Q, 0, none⟩ = false) (f3 : w.frozen? ⟨R, 0, none⟩ = false) (hPQ : P ≠ Q) (hPR : P ≠ R) (hQR : Q ≠ R) :
    CallsD Tryz.prog 84 #[.pointer (some ⟨P, 0, none⟩), .pointer (some ⟨Q, 0, none⟩), .pointer (some ⟨R, 0, none⟩)] (.panicking [{ v := .iface 193 (.agg #[]), recovered := false }]) w fun e u' w' => e = .returned (.tuple #[]) ∧ u' = .panicking [{ v := .iface 193 (.agg #[]), recovered := true }] ∧ w' = ((((w.alloc (.cells #[] 193)).setCell ⟨P, 0, none⟩ (.slice none 0 0)).setCell ⟨Q, 0, none⟩ (.map none)).setCell ⟨R, 0, none⟩ (.iface 80 (.int .i64 8))) := by
  refine callsD_of_wpS Tryz.func84 rfl fun c₀ cs hu => ?_
  have hnil := ne_nil
  have ta_blank := ta_long_blank
  have ta_stuck := ta_long_stuck
  have ta_long := ta_long_long
  have k1 : (w.alloc (.cells #[] 193)).cell? ⟨P, 0, none⟩ = some a := (((Below.refl w.heap.size w).alloc (Nat.le_refl _) _).cell (p := ⟨P, 0, none⟩) (World.block_lt_of_cell? _ _ h1)).trans h1
  have m1 : (w.alloc (.cells #[] 193)).frozen? ⟨P, 0, none⟩ = false := by rw [frozen_alloc_old w _ (World.block_lt_of_cell? _ _ h1)]; exact f1
  have k2 : (w.alloc (.cells #[] 193)).cell? ⟨Q, 0, none⟩ = some b := (((Below.refl w.heap.size w).alloc (Nat.le_refl _) _).cell (p := ⟨Q, 0, none⟩) (World.block_lt_of_cell? _ _ h2)).trans h2
  have m2 : (w.alloc (.cells #[] 193)).frozen? ⟨Q, 0, none⟩ = false := by rw [frozen_alloc_old w _ (World.block_lt_of_cell? _ _ h2)]; exact f2
  have k3 : (w.alloc (.cells #[] 193)).cell? ⟨R, 0, none⟩ = some c := (((Below.refl w.heap.size w).alloc (Nat.le_refl _) _).cell (p := ⟨R, 0, none⟩) (World.block_lt_of_cell? _ _ h3)).trans h3
  have m3 : (w.alloc (.cells #[] 193)).frozen? ⟨R, 0, none⟩ = false := by rw [frozen_alloc_old w _ (World.block_lt_of_cell? _ _ h3)]; exact f3
  clear h1 h2 h3 f1 f2 f3
  apply wpS_seq
  apply wpS_region
  simp [wpOpsS, go_sem, recoverD, hu, Tryz.ntmps84, Exit.thenS]
  rw [fr23]
  refine wpS_of_wp ?_
  go_wp2_with fail
  simp [bodyPostS, results, Tryz.results84]

end Go.Proofs.YtaibngnabhmabajGreatDoor
