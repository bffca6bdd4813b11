/- Package machine: work, sums, differences, products. Package machine: work, same, must. -/
import Derived.Test.YtdpdmgmeieijaaaGreatDoorSndAG
import Derived.Test.YtdpdmgmeieijaaaGreatDoorSpgs
namespace Go.Proofs.YtdpdmgmeieijaaaGreatDoor
open Go.RowKit Go.Maps

set_option maxRecDepth 100000 in
set_option maxHeartbeats 1000000 in
theorem pwork_1 (p R b B nB : Nat) (aL : Option Addr) (nL cL : Nat) (ia ib ic x0 x1 x2 : Int) (n : Rg) (cs : List (Int × Int)) (w : World) (h3 : 3 ≤ p) (h4 : p ≤ 2147483647) (hR : RnAt w R b B aL nL cL n) (hM : MapAt w B nB cs) (hp : w.cell? ⟨b, 0, none⟩ = some (.int .i64 p)) (hnB : nB + 2 < maxLen) (hx : I64 x0 ∧ I64 x1 ∧ I64 x2) (hcs : ∀ x, 0 ≤ cvl cs x ∧ cvl cs x < p) :
    Calls Tryz.prog 79 #[.pointer (some ⟨R, 0, none⟩), .agg #[.int .i64 1, .int .i64 ia, .int .i64 ib, .int .i64 ic], .agg #[.int .i64 x0, .int .i64 x1, .int .i64 x2]] w (WpR B (nB + 2) (wrk p 1 ib x0 x1 x2 n cs) w) := by
  have hmx : Tryz.prog.follows .mixedOrders = true := by kernel_rfl
  have HP := hid (woP_of p R b B nB aL nL cL 1 ia ib ic x0 x1 x2 n cs w hR hM hp)
  obtain ⟨W0, hW0⟩ : ∃ W0, W0 = (w.alloc (.cells #[.int .i64 1, .int .i64 ia, .int .i64 ib, .int .i64 ic] 45)).alloc (.cells #[.int .i64 x0, .int .i64 x1, .int .i64 x2] 64) := ⟨_, rfl⟩
  rw [← hW0] at HP
  have hpc := HP.out.hp
  have hbd : Below w.heap.size w W0.drew := HP.out.bel.drew
  have hRd : RnAt W0.drew R b B aL nL cL n := HP.out.rn
  have hMd : MapAt W0.drew B nB cs := HP.out.mp
  have c0 : W0.cell? ⟨R, 0, none⟩ = some (.pointer (some ⟨b, 0, none⟩)) := HP.out.rn.cell (i := 0) (by decide)
  have c3 : W0.cell? ⟨R, 3, none⟩ = some (.int .i64 n.pc) := HP.out.rn.cell (i := 3) (by decide)
  have c4 : W0.cell? ⟨R, 4, none⟩ = some (.int .i64 n.fp) := HP.out.rn.cell (i := 4) (by decide)
  have c6 : W0.cell? ⟨R, 6, none⟩ = some (.int .i64 n.rv) := HP.out.rn.cell (i := 6) (by decide)
  have j2 : W0.cell? ⟨w.heap.size, 2, none⟩ = some (.int .i64 ib) := by simp [World.cell?, HP.out.i]
  have a0 : W0.cell? ⟨w.heap.size + 1, 0, none⟩ = some (.int .i64 x0) := by simp [World.cell?, HP.out.r]
  have a1 : W0.cell? ⟨w.heap.size + 1, 1, none⟩ = some (.int .i64 x1) := by simp [World.cell?, HP.out.r]
  have a2 : W0.cell? ⟨w.heap.size + 1, 2, none⟩ = some (.int .i64 x2) := by simp [World.cell?, HP.out.r]
  have HG : Hid (w.grownBy W0.drew (some B)) := grB hbd
  have HBD := hid hbd
  have HNB := hid hnB

  by_cases t0 : 0 ≤ finz cs x0
  · by_cases t1 : 0 ≤ finz cs x1
    · have HL0 := hid (plook_yes R b B nB aL nL cL n cs x0 W0.drew hRd hMd hx.1 t0)
      have HL1 := hid (plook_yes R b B nB aL nL cL n cs x1 W0.drew hRd hMd hx.2.1 t1)
      have b0 := hcs x0
      have b1 := hcs x1
      have hz : (cvl cs x0 + cvl cs x1) % (p : Int) = rkn p 1 (cvl cs x0) (cvl cs x1) := by simp [rkn]
      have HOP : Hid (Calls Tryz.prog 52 #[.pointer (some ⟨b, 0, none⟩), .int .i64 (cvl cs x0), .int .i64 (cvl cs x1)] W0.drew fun e w' => e = .returned (.int .i64 (rkn p 1 (cvl cs x0) (cvl cs x1))) ∧ w' = W0.drew) := by
        rw [← hz]
        exact add_any p b _ _ W0.drew h3 h4 hpc (by omega) (by omega) (by omega) (by omega)
      clear hz
      have HT := hid (ptell_any R b B nB aL nL cL n cs x2 (rkn p 1 (cvl cs x0) (cvl cs x1)) W0.drew hRd hMd (by omega) hx.2.2 (rkn_fit h3 h4 _ _ _))
      have HW : Hid (wrk p 1 ib x0 x1 x2 n cs = tel cs x2 (rkn p 1 (cvl cs x0) (cvl cs x1))) := by unfold Hid wrk; simp [t0, t1]
      generalize rkn p 1 (cvl cs x0) (cvl cs x1) = z at *
      generalize cvl cs x0 = v0 at *
      generalize cvl cs x1 = v1 at *
      clear hRd hMd hbd hR hM hp hx hcs b0 b1 t0 t1 h3 h4
      go_enter Tryz.func79, Tryz.ntmps79
      go_wp2_with fail
      rw [← hW0]
      clear hW0
      refine wp_region_still_tail 16 hmx (by kernel_rfl) ?_
      simp only [List.take_succ_cons, List.take_zero, List.drop_succ_cons, List.drop_zero]
      repeat still_step
      still_call HL0.out
      repeat still_step
      still_call HL1.out
      repeat still_step
      still_call HOP.out
      repeat still_step
      refine wpStill_nil ?_
      go_wp2_with fail
      refine HT.out.mono ?_
      rintro e w2 ⟨hg2, ⟨h0, rfl, hm2⟩ | ⟨h7, rfl⟩ | ⟨h10, rfl⟩⟩
      · have HE : Hid (WpR B (nB + 2) (wrk p 1 ib x0 x1 x2 n cs) w (.returned (.tuple #[])) w2) := by
          rw [HW.out]
          exact ⟨grW HBD.out hg2, .inl ⟨h0, rfl, hm2.mono (by omega)⟩⟩
        clear hg2 h0 hm2 HT
        go_wp2_with fail
        go_end0
        exact HE.out
      · exact ⟨rfl, by rw [HW.out]; exact ⟨grW HBD.out hg2, .inr (.inl ⟨h7, rfl⟩)⟩⟩
      · exact ⟨rfl, by rw [HW.out]; exact ⟨grW HBD.out hg2, .inr (.inr ⟨h10, rfl⟩)⟩⟩
    · have HL0 := hid (plook_yes R b B nB aL nL cL n cs x0 W0.drew hRd hMd hx.1 t0)
      have HL1 := hid (plook_no R b B nB aL nL cL n cs x1 W0.drew hRd hMd hx.2.1 t1)
      have HW : Hid ((wrk p 1 ib x0 x1 x2 n cs).1 = 10) := by unfold Hid wrk; simp [t0, t1]
      clear hRd hMd hbd hR hM hp hx hcs t0 t1 h3 h4
      go_enter Tryz.func79, Tryz.ntmps79
      go_wp2_with fail
      rw [← hW0]
      clear hW0
      refine wp_region_held_drew (S := (fun W => W = W0.drew)) (by kernel_rfl) rfl (fun hHeld => ?_)
      refine wpAnyH_takeW (i := 0) (v := .pointer (some ⟨R, 0, none⟩)) rfl (by kernel_rfl) (by kernel_rfl) (by kernel_rfl) (fun _ _ _ h => h) (by rfl) (fun W hC => by (subst hC; go_simp)) hHeld ?_
      simp only [Act.put, List.setIfInBounds_toArray, List.set_cons_zero, List.set_cons_succ]
      refine wpAnyH_takeW (i := 1) (v := .pointer (some ⟨w.heap.size + 1, 2, none⟩)) rfl (by kernel_rfl) (by kernel_rfl) (by kernel_rfl) (fun _ _ _ h => h) (by rfl) (fun W hC => by (subst hC; go_simp)) hHeld ?_
      simp only [Act.put, List.setIfInBounds_toArray, List.set_cons_zero, List.set_cons_succ]
      refine wpAnyH_takeW (i := 2) (v := .int .i64 x2) rfl (by kernel_rfl) (by kernel_rfl) (by kernel_rfl) (fun _ _ _ h => h) (by rfl) (fun W hC => by (subst hC; go_simp)) hHeld ?_
      simp only [Act.put, List.setIfInBounds_toArray, List.set_cons_zero, List.set_cons_succ]
      refine wpAnyH_takeW (i := 3) (v := .pointer (some ⟨R, 0, none⟩)) rfl (by kernel_rfl) (by kernel_rfl) (by kernel_rfl) (fun _ _ _ h => h) (by rfl) (fun W hC => by (subst hC; go_simp)) hHeld ?_
      simp only [Act.put, List.setIfInBounds_toArray, List.set_cons_zero, List.set_cons_succ]
      refine wpAnyH_takeW (i := 4) (v := .pointer (some ⟨R, 0, none⟩)) rfl (by kernel_rfl) (by kernel_rfl) (by kernel_rfl) (fun _ _ _ h => h) (by rfl) (fun W hC => by (subst hC; go_simp)) hHeld ?_
      simp only [Act.put, List.setIfInBounds_toArray, List.set_cons_zero, List.set_cons_succ]
      refine wpAnyH_takeW (i := 5) (v := .pointer (some ⟨R, 0, none⟩)) rfl (by kernel_rfl) (by kernel_rfl) (by kernel_rfl) (fun _ _ _ h => h) (by rfl) (fun W hC => by (subst hC; go_simp)) hHeld ?_
      simp only [Act.put, List.setIfInBounds_toArray, List.set_cons_zero, List.set_cons_succ]
      refine wpAnyH_takeW (i := 6) (v := .pointer (some ⟨b, 0, none⟩)) rfl (by kernel_rfl) (by kernel_rfl) (by kernel_rfl) (fun _ _ _ h => h) (by rfl) (fun W hC => by (subst hC; go_simp)) hHeld ?_
      simp only [Act.put, List.setIfInBounds_toArray, List.set_cons_zero, List.set_cons_succ]
      refine wpAnyH_takeW (i := 7) (v := .pointer (some ⟨R, 0, none⟩)) rfl (by kernel_rfl) (by kernel_rfl) (by kernel_rfl) (fun _ _ _ h => h) (by rfl) (fun W hC => by (subst hC; go_simp)) hHeld ?_
      simp only [Act.put, List.setIfInBounds_toArray, List.set_cons_zero, List.set_cons_succ]
      refine wpAnyH_takeW (i := 8) (v := .pointer (some ⟨w.heap.size + 1, 0, none⟩)) rfl (by kernel_rfl) (by kernel_rfl) (by kernel_rfl) (fun _ _ _ h => h) (by rfl) (fun W hC => by (subst hC; go_simp)) hHeld ?_
      simp only [Act.put, List.setIfInBounds_toArray, List.set_cons_zero, List.set_cons_succ]
      refine wpAnyH_takeW (i := 9) (v := .int .i64 x0) rfl (by kernel_rfl) (by kernel_rfl) (by kernel_rfl) (fun _ _ _ h => h) (by rfl) (fun W hC => by (subst hC; go_simp)) hHeld ?_
      simp only [Act.put, List.setIfInBounds_toArray, List.set_cons_zero, List.set_cons_succ]
      refine wpAnyH_takeW (i := 11) (v := .pointer (some ⟨R, 0, none⟩)) rfl (by kernel_rfl) (by kernel_rfl) (by kernel_rfl) (fun _ _ _ h => h) (by rfl) (fun W hC => by (subst hC; go_simp)) hHeld ?_
      simp only [Act.put, List.setIfInBounds_toArray, List.set_cons_zero, List.set_cons_succ]
      refine wpAnyH_takeW (i := 12) (v := .pointer (some ⟨w.heap.size + 1, 1, none⟩)) rfl (by kernel_rfl) (by kernel_rfl) (by kernel_rfl) (fun _ _ _ h => h) (by rfl) (fun W hC => by (subst hC; go_simp)) hHeld ?_
      simp only [Act.put, List.setIfInBounds_toArray, List.set_cons_zero, List.set_cons_succ]
      refine wpAnyH_takeW (i := 13) (v := .int .i64 x1) rfl (by kernel_rfl) (by kernel_rfl) (by kernel_rfl) (fun _ _ _ h => h) (by rfl) (fun W hC => by (subst hC; go_simp)) hHeld ?_
      simp only [Act.put, List.setIfInBounds_toArray, List.set_cons_zero, List.set_cons_succ]
      refine wpAnyH_ready (rs := [10]) (by kernel_rfl) (by simp) ?_
      refine AllReadyH.consW rfl (fun K hK => ?_) AllReadyH.nil
      go_simp
      refine HL0.out.mono ?_
      rintro e w2 ⟨rfl, rfl⟩
      refine hK.out _ _ rfl (fun hHeld => ?_)
      clear hK K
      refine wpAnyH_ready (rs := [14]) (by kernel_rfl) (by simp) ?_
      refine AllReadyH.consW rfl (fun K hK => ?_) AllReadyH.nil
      go_simp
      refine HL1.out.mono ?_
      rintro e w2 ⟨rfl, rfl⟩
      exact ⟨rfl, HG.out, .inr (.inr ⟨HW.out, rfl⟩)⟩
  · have HL0 := hid (plook_no R b B nB aL nL cL n cs x0 W0.drew hRd hMd hx.1 t0)
    have HW : Hid ((wrk p 1 ib x0 x1 x2 n cs).1 = 10) := by unfold Hid wrk; simp [t0]
    clear hRd hMd hbd hR hM hp hx hcs t0 h3 h4
    go_enter Tryz.func79, Tryz.ntmps79
    go_wp2_with fail
    rw [← hW0]
    clear hW0
    refine wp_region_held_drew (S := (fun W => W = W0.drew)) (by kernel_rfl) rfl (fun hHeld => ?_)
    refine wpAnyH_takeW (i := 0) (v := .pointer (some ⟨R, 0, none⟩)) rfl (by kernel_rfl) (by kernel_rfl) (by kernel_rfl) (fun _ _ _ h => h) (by rfl) (fun W hC => by (subst hC; go_simp)) hHeld ?_
    simp only [Act.put, List.setIfInBounds_toArray, List.set_cons_zero, List.set_cons_succ]
    refine wpAnyH_takeW (i := 1) (v := .pointer (some ⟨w.heap.size + 1, 2, none⟩)) rfl (by kernel_rfl) (by kernel_rfl) (by kernel_rfl) (fun _ _ _ h => h) (by rfl) (fun W hC => by (subst hC; go_simp)) hHeld ?_
    simp only [Act.put, List.setIfInBounds_toArray, List.set_cons_zero, List.set_cons_succ]
    refine wpAnyH_takeW (i := 2) (v := .int .i64 x2) rfl (by kernel_rfl) (by kernel_rfl) (by kernel_rfl) (fun _ _ _ h => h) (by rfl) (fun W hC => by (subst hC; go_simp)) hHeld ?_
    simp only [Act.put, List.setIfInBounds_toArray, List.set_cons_zero, List.set_cons_succ]
    refine wpAnyH_takeW (i := 3) (v := .pointer (some ⟨R, 0, none⟩)) rfl (by kernel_rfl) (by kernel_rfl) (by kernel_rfl) (fun _ _ _ h => h) (by rfl) (fun W hC => by (subst hC; go_simp)) hHeld ?_
    simp only [Act.put, List.setIfInBounds_toArray, List.set_cons_zero, List.set_cons_succ]
    refine wpAnyH_takeW (i := 4) (v := .pointer (some ⟨R, 0, none⟩)) rfl (by kernel_rfl) (by kernel_rfl) (by kernel_rfl) (fun _ _ _ h => h) (by rfl) (fun W hC => by (subst hC; go_simp)) hHeld ?_
    simp only [Act.put, List.setIfInBounds_toArray, List.set_cons_zero, List.set_cons_succ]
    refine wpAnyH_takeW (i := 5) (v := .pointer (some ⟨R, 0, none⟩)) rfl (by kernel_rfl) (by kernel_rfl) (by kernel_rfl) (fun _ _ _ h => h) (by rfl) (fun W hC => by (subst hC; go_simp)) hHeld ?_
    simp only [Act.put, List.setIfInBounds_toArray, List.set_cons_zero, List.set_cons_succ]
    refine wpAnyH_takeW (i := 6) (v := .pointer (some ⟨b, 0, none⟩)) rfl (by kernel_rfl) (by kernel_rfl) (by kernel_rfl) (fun _ _ _ h => h) (by rfl) (fun W hC => by (subst hC; go_simp)) hHeld ?_
    simp only [Act.put, List.setIfInBounds_toArray, List.set_cons_zero, List.set_cons_succ]
    refine wpAnyH_takeW (i := 7) (v := .pointer (some ⟨R, 0, none⟩)) rfl (by kernel_rfl) (by kernel_rfl) (by kernel_rfl) (fun _ _ _ h => h) (by rfl) (fun W hC => by (subst hC; go_simp)) hHeld ?_
    simp only [Act.put, List.setIfInBounds_toArray, List.set_cons_zero, List.set_cons_succ]
    refine wpAnyH_takeW (i := 8) (v := .pointer (some ⟨w.heap.size + 1, 0, none⟩)) rfl (by kernel_rfl) (by kernel_rfl) (by kernel_rfl) (fun _ _ _ h => h) (by rfl) (fun W hC => by (subst hC; go_simp)) hHeld ?_
    simp only [Act.put, List.setIfInBounds_toArray, List.set_cons_zero, List.set_cons_succ]
    refine wpAnyH_takeW (i := 9) (v := .int .i64 x0) rfl (by kernel_rfl) (by kernel_rfl) (by kernel_rfl) (fun _ _ _ h => h) (by rfl) (fun W hC => by (subst hC; go_simp)) hHeld ?_
    simp only [Act.put, List.setIfInBounds_toArray, List.set_cons_zero, List.set_cons_succ]
    refine wpAnyH_takeW (i := 11) (v := .pointer (some ⟨R, 0, none⟩)) rfl (by kernel_rfl) (by kernel_rfl) (by kernel_rfl) (fun _ _ _ h => h) (by rfl) (fun W hC => by (subst hC; go_simp)) hHeld ?_
    simp only [Act.put, List.setIfInBounds_toArray, List.set_cons_zero, List.set_cons_succ]
    refine wpAnyH_takeW (i := 12) (v := .pointer (some ⟨w.heap.size + 1, 1, none⟩)) rfl (by kernel_rfl) (by kernel_rfl) (by kernel_rfl) (fun _ _ _ h => h) (by rfl) (fun W hC => by (subst hC; go_simp)) hHeld ?_
    simp only [Act.put, List.setIfInBounds_toArray, List.set_cons_zero, List.set_cons_succ]
    refine wpAnyH_takeW (i := 13) (v := .int .i64 x1) rfl (by kernel_rfl) (by kernel_rfl) (by kernel_rfl) (fun _ _ _ h => h) (by rfl) (fun W hC => by (subst hC; go_simp)) hHeld ?_
    simp only [Act.put, List.setIfInBounds_toArray, List.set_cons_zero, List.set_cons_succ]
    refine wpAnyH_ready (rs := [10]) (by kernel_rfl) (by simp) ?_
    refine AllReadyH.consW rfl (fun K hK => ?_) AllReadyH.nil
    go_simp
    refine HL0.out.mono ?_
    rintro e w2 ⟨rfl, rfl⟩
    exact ⟨rfl, HG.out, .inr (.inr ⟨HW.out, rfl⟩)⟩

set_option maxRecDepth 100000 in
set_option maxHeartbeats 1000000 in
theorem pwork_2 (p R b B nB : Nat) (aL : Option Addr) (nL cL : Nat) (ia ib ic x0 x1 x2 : Int) (n : Rg) (cs : List (Int × Int)) (w : World) (h3 : 3 ≤ p) (h4 : p ≤ 2147483647) (hR : RnAt w R b B aL nL cL n) (hM : MapAt w B nB cs) (hp : w.cell? ⟨b, 0, none⟩ = some (.int .i64 p)) (hnB : nB + 2 < maxLen) (hx : I64 x0 ∧ I64 x1 ∧ I64 x2) (hcs : ∀ x, 0 ≤ cvl cs x ∧ cvl cs x < p) :
    Calls Tryz.prog 79 #[.pointer (some ⟨R, 0, none⟩), .agg #[.int .i64 2, .int .i64 ia, .int .i64 ib, .int .i64 ic], .agg #[.int .i64 x0, .int .i64 x1, .int .i64 x2]] w (WpR B (nB + 2) (wrk p 2 ib x0 x1 x2 n cs) w) := by
  have hmx : Tryz.prog.follows .mixedOrders = true := by kernel_rfl
  have HP := hid (woP_of p R b B nB aL nL cL 2 ia ib ic x0 x1 x2 n cs w hR hM hp)
  obtain ⟨W0, hW0⟩ : ∃ W0, W0 = (w.alloc (.cells #[.int .i64 2, .int .i64 ia, .int .i64 ib, .int .i64 ic] 45)).alloc (.cells #[.int .i64 x0, .int .i64 x1, .int .i64 x2] 64) := ⟨_, rfl⟩
  rw [← hW0] at HP
  have hpc := HP.out.hp
  have hbd : Below w.heap.size w W0.drew := HP.out.bel.drew
  have hRd : RnAt W0.drew R b B aL nL cL n := HP.out.rn
  have hMd : MapAt W0.drew B nB cs := HP.out.mp
  have c0 : W0.cell? ⟨R, 0, none⟩ = some (.pointer (some ⟨b, 0, none⟩)) := HP.out.rn.cell (i := 0) (by decide)
  have c3 : W0.cell? ⟨R, 3, none⟩ = some (.int .i64 n.pc) := HP.out.rn.cell (i := 3) (by decide)
  have c4 : W0.cell? ⟨R, 4, none⟩ = some (.int .i64 n.fp) := HP.out.rn.cell (i := 4) (by decide)
  have c6 : W0.cell? ⟨R, 6, none⟩ = some (.int .i64 n.rv) := HP.out.rn.cell (i := 6) (by decide)
  have j2 : W0.cell? ⟨w.heap.size, 2, none⟩ = some (.int .i64 ib) := by simp [World.cell?, HP.out.i]
  have a0 : W0.cell? ⟨w.heap.size + 1, 0, none⟩ = some (.int .i64 x0) := by simp [World.cell?, HP.out.r]
  have a1 : W0.cell? ⟨w.heap.size + 1, 1, none⟩ = some (.int .i64 x1) := by simp [World.cell?, HP.out.r]
  have a2 : W0.cell? ⟨w.heap.size + 1, 2, none⟩ = some (.int .i64 x2) := by simp [World.cell?, HP.out.r]
  have HG : Hid (w.grownBy W0.drew (some B)) := grB hbd
  have HBD := hid hbd
  have HNB := hid hnB

  by_cases t0 : 0 ≤ finz cs x0
  · by_cases t1 : 0 ≤ finz cs x1
    · have HL0 := hid (plook_yes R b B nB aL nL cL n cs x0 W0.drew hRd hMd hx.1 t0)
      have HL1 := hid (plook_yes R b B nB aL nL cL n cs x1 W0.drew hRd hMd hx.2.1 t1)
      have b0 := hcs x0
      have b1 := hcs x1
      have hz : (cvl cs x0 - cvl cs x1) % (p : Int) = rkn p 2 (cvl cs x0) (cvl cs x1) := by simp [rkn]
      have HOP : Hid (Calls Tryz.prog 85 #[.pointer (some ⟨b, 0, none⟩), .int .i64 (cvl cs x0), .int .i64 (cvl cs x1)] W0.drew fun e w' => e = .returned (.int .i64 (rkn p 2 (cvl cs x0) (cvl cs x1))) ∧ w' = W0.drew) := by
        rw [← hz]
        exact sub_any p b _ _ W0.drew h3 h4 hpc (by omega) (by omega) (by omega) (by omega)
      clear hz
      have HT := hid (ptell_any R b B nB aL nL cL n cs x2 (rkn p 2 (cvl cs x0) (cvl cs x1)) W0.drew hRd hMd (by omega) hx.2.2 (rkn_fit h3 h4 _ _ _))
      have HW : Hid (wrk p 2 ib x0 x1 x2 n cs = tel cs x2 (rkn p 2 (cvl cs x0) (cvl cs x1))) := by unfold Hid wrk; simp [t0, t1]
      generalize rkn p 2 (cvl cs x0) (cvl cs x1) = z at *
      generalize cvl cs x0 = v0 at *
      generalize cvl cs x1 = v1 at *
      clear hRd hMd hbd hR hM hp hx hcs b0 b1 t0 t1 h3 h4
      go_enter Tryz.func79, Tryz.ntmps79
      go_wp2_with fail
      rw [← hW0]
      clear hW0
      refine wp_region_still_tail 16 hmx (by kernel_rfl) ?_
      simp only [List.take_succ_cons, List.take_zero, List.drop_succ_cons, List.drop_zero]
      repeat still_step
      still_call HL0.out
      repeat still_step
      still_call HL1.out
      repeat still_step
      still_call HOP.out
      repeat still_step
      refine wpStill_nil ?_
      go_wp2_with fail
      refine HT.out.mono ?_
      rintro e w2 ⟨hg2, ⟨h0, rfl, hm2⟩ | ⟨h7, rfl⟩ | ⟨h10, rfl⟩⟩
      · have HE : Hid (WpR B (nB + 2) (wrk p 2 ib x0 x1 x2 n cs) w (.returned (.tuple #[])) w2) := by
          rw [HW.out]
          exact ⟨grW HBD.out hg2, .inl ⟨h0, rfl, hm2.mono (by omega)⟩⟩
        clear hg2 h0 hm2 HT
        go_wp2_with fail
        go_end0
        exact HE.out
      · exact ⟨rfl, by rw [HW.out]; exact ⟨grW HBD.out hg2, .inr (.inl ⟨h7, rfl⟩)⟩⟩
      · exact ⟨rfl, by rw [HW.out]; exact ⟨grW HBD.out hg2, .inr (.inr ⟨h10, rfl⟩)⟩⟩
    · have HL0 := hid (plook_yes R b B nB aL nL cL n cs x0 W0.drew hRd hMd hx.1 t0)
      have HL1 := hid (plook_no R b B nB aL nL cL n cs x1 W0.drew hRd hMd hx.2.1 t1)
      have HW : Hid ((wrk p 2 ib x0 x1 x2 n cs).1 = 10) := by unfold Hid wrk; simp [t0, t1]
      clear hRd hMd hbd hR hM hp hx hcs t0 t1 h3 h4
      go_enter Tryz.func79, Tryz.ntmps79
      go_wp2_with fail
      rw [← hW0]
      clear hW0
      refine wp_region_held_drew (S := (fun W => W = W0.drew)) (by kernel_rfl) rfl (fun hHeld => ?_)
      refine wpAnyH_takeW (i := 0) (v := .pointer (some ⟨R, 0, none⟩)) rfl (by kernel_rfl) (by kernel_rfl) (by kernel_rfl) (fun _ _ _ h => h) (by rfl) (fun W hC => by (subst hC; go_simp)) hHeld ?_
      simp only [Act.put, List.setIfInBounds_toArray, List.set_cons_zero, List.set_cons_succ]
      refine wpAnyH_takeW (i := 1) (v := .pointer (some ⟨w.heap.size + 1, 2, none⟩)) rfl (by kernel_rfl) (by kernel_rfl) (by kernel_rfl) (fun _ _ _ h => h) (by rfl) (fun W hC => by (subst hC; go_simp)) hHeld ?_
      simp only [Act.put, List.setIfInBounds_toArray, List.set_cons_zero, List.set_cons_succ]
      refine wpAnyH_takeW (i := 2) (v := .int .i64 x2) rfl (by kernel_rfl) (by kernel_rfl) (by kernel_rfl) (fun _ _ _ h => h) (by rfl) (fun W hC => by (subst hC; go_simp)) hHeld ?_
      simp only [Act.put, List.setIfInBounds_toArray, List.set_cons_zero, List.set_cons_succ]
      refine wpAnyH_takeW (i := 3) (v := .pointer (some ⟨R, 0, none⟩)) rfl (by kernel_rfl) (by kernel_rfl) (by kernel_rfl) (fun _ _ _ h => h) (by rfl) (fun W hC => by (subst hC; go_simp)) hHeld ?_
      simp only [Act.put, List.setIfInBounds_toArray, List.set_cons_zero, List.set_cons_succ]
      refine wpAnyH_takeW (i := 4) (v := .pointer (some ⟨R, 0, none⟩)) rfl (by kernel_rfl) (by kernel_rfl) (by kernel_rfl) (fun _ _ _ h => h) (by rfl) (fun W hC => by (subst hC; go_simp)) hHeld ?_
      simp only [Act.put, List.setIfInBounds_toArray, List.set_cons_zero, List.set_cons_succ]
      refine wpAnyH_takeW (i := 5) (v := .pointer (some ⟨R, 0, none⟩)) rfl (by kernel_rfl) (by kernel_rfl) (by kernel_rfl) (fun _ _ _ h => h) (by rfl) (fun W hC => by (subst hC; go_simp)) hHeld ?_
      simp only [Act.put, List.setIfInBounds_toArray, List.set_cons_zero, List.set_cons_succ]
      refine wpAnyH_takeW (i := 6) (v := .pointer (some ⟨b, 0, none⟩)) rfl (by kernel_rfl) (by kernel_rfl) (by kernel_rfl) (fun _ _ _ h => h) (by rfl) (fun W hC => by (subst hC; go_simp)) hHeld ?_
      simp only [Act.put, List.setIfInBounds_toArray, List.set_cons_zero, List.set_cons_succ]
      refine wpAnyH_takeW (i := 7) (v := .pointer (some ⟨R, 0, none⟩)) rfl (by kernel_rfl) (by kernel_rfl) (by kernel_rfl) (fun _ _ _ h => h) (by rfl) (fun W hC => by (subst hC; go_simp)) hHeld ?_
      simp only [Act.put, List.setIfInBounds_toArray, List.set_cons_zero, List.set_cons_succ]
      refine wpAnyH_takeW (i := 8) (v := .pointer (some ⟨w.heap.size + 1, 0, none⟩)) rfl (by kernel_rfl) (by kernel_rfl) (by kernel_rfl) (fun _ _ _ h => h) (by rfl) (fun W hC => by (subst hC; go_simp)) hHeld ?_
      simp only [Act.put, List.setIfInBounds_toArray, List.set_cons_zero, List.set_cons_succ]
      refine wpAnyH_takeW (i := 9) (v := .int .i64 x0) rfl (by kernel_rfl) (by kernel_rfl) (by kernel_rfl) (fun _ _ _ h => h) (by rfl) (fun W hC => by (subst hC; go_simp)) hHeld ?_
      simp only [Act.put, List.setIfInBounds_toArray, List.set_cons_zero, List.set_cons_succ]
      refine wpAnyH_takeW (i := 11) (v := .pointer (some ⟨R, 0, none⟩)) rfl (by kernel_rfl) (by kernel_rfl) (by kernel_rfl) (fun _ _ _ h => h) (by rfl) (fun W hC => by (subst hC; go_simp)) hHeld ?_
      simp only [Act.put, List.setIfInBounds_toArray, List.set_cons_zero, List.set_cons_succ]
      refine wpAnyH_takeW (i := 12) (v := .pointer (some ⟨w.heap.size + 1, 1, none⟩)) rfl (by kernel_rfl) (by kernel_rfl) (by kernel_rfl) (fun _ _ _ h => h) (by rfl) (fun W hC => by (subst hC; go_simp)) hHeld ?_
      simp only [Act.put, List.setIfInBounds_toArray, List.set_cons_zero, List.set_cons_succ]
      refine wpAnyH_takeW (i := 13) (v := .int .i64 x1) rfl (by kernel_rfl) (by kernel_rfl) (by kernel_rfl) (fun _ _ _ h => h) (by rfl) (fun W hC => by (subst hC; go_simp)) hHeld ?_
      simp only [Act.put, List.setIfInBounds_toArray, List.set_cons_zero, List.set_cons_succ]
      refine wpAnyH_ready (rs := [10]) (by kernel_rfl) (by simp) ?_
      refine AllReadyH.consW rfl (fun K hK => ?_) AllReadyH.nil
      go_simp
      refine HL0.out.mono ?_
      rintro e w2 ⟨rfl, rfl⟩
      refine hK.out _ _ rfl (fun hHeld => ?_)
      clear hK K
      refine wpAnyH_ready (rs := [14]) (by kernel_rfl) (by simp) ?_
      refine AllReadyH.consW rfl (fun K hK => ?_) AllReadyH.nil
      go_simp
      refine HL1.out.mono ?_
      rintro e w2 ⟨rfl, rfl⟩
      exact ⟨rfl, HG.out, .inr (.inr ⟨HW.out, rfl⟩)⟩
  · have HL0 := hid (plook_no R b B nB aL nL cL n cs x0 W0.drew hRd hMd hx.1 t0)
    have HW : Hid ((wrk p 2 ib x0 x1 x2 n cs).1 = 10) := by unfold Hid wrk; simp [t0]
    clear hRd hMd hbd hR hM hp hx hcs t0 h3 h4
    go_enter Tryz.func79, Tryz.ntmps79
    go_wp2_with fail
    rw [← hW0]
    clear hW0
    refine wp_region_held_drew (S := (fun W => W = W0.drew)) (by kernel_rfl) rfl (fun hHeld => ?_)
    refine wpAnyH_takeW (i := 0) (v := .pointer (some ⟨R, 0, none⟩)) rfl (by kernel_rfl) (by kernel_rfl) (by kernel_rfl) (fun _ _ _ h => h) (by rfl) (fun W hC => by (subst hC; go_simp)) hHeld ?_
    simp only [Act.put, List.setIfInBounds_toArray, List.set_cons_zero, List.set_cons_succ]
    refine wpAnyH_takeW (i := 1) (v := .pointer (some ⟨w.heap.size + 1, 2, none⟩)) rfl (by kernel_rfl) (by kernel_rfl) (by kernel_rfl) (fun _ _ _ h => h) (by rfl) (fun W hC => by (subst hC; go_simp)) hHeld ?_
    simp only [Act.put, List.setIfInBounds_toArray, List.set_cons_zero, List.set_cons_succ]
    refine wpAnyH_takeW (i := 2) (v := .int .i64 x2) rfl (by kernel_rfl) (by kernel_rfl) (by kernel_rfl) (fun _ _ _ h => h) (by rfl) (fun W hC => by (subst hC; go_simp)) hHeld ?_
    simp only [Act.put, List.setIfInBounds_toArray, List.set_cons_zero, List.set_cons_succ]
    refine wpAnyH_takeW (i := 3) (v := .pointer (some ⟨R, 0, none⟩)) rfl (by kernel_rfl) (by kernel_rfl) (by kernel_rfl) (fun _ _ _ h => h) (by rfl) (fun W hC => by (subst hC; go_simp)) hHeld ?_
    simp only [Act.put, List.setIfInBounds_toArray, List.set_cons_zero, List.set_cons_succ]
    refine wpAnyH_takeW (i := 4) (v := .pointer (some ⟨R, 0, none⟩)) rfl (by kernel_rfl) (by kernel_rfl) (by kernel_rfl) (fun _ _ _ h => h) (by rfl) (fun W hC => by (subst hC; go_simp)) hHeld ?_
    simp only [Act.put, List.setIfInBounds_toArray, List.set_cons_zero, List.set_cons_succ]
    refine wpAnyH_takeW (i := 5) (v := .pointer (some ⟨R, 0, none⟩)) rfl (by kernel_rfl) (by kernel_rfl) (by kernel_rfl) (fun _ _ _ h => h) (by rfl) (fun W hC => by (subst hC; go_simp)) hHeld ?_
    simp only [Act.put, List.setIfInBounds_toArray, List.set_cons_zero, List.set_cons_succ]
    refine wpAnyH_takeW (i := 6) (v := .pointer (some ⟨b, 0, none⟩)) rfl (by kernel_rfl) (by kernel_rfl) (by kernel_rfl) (fun _ _ _ h => h) (by rfl) (fun W hC => by (subst hC; go_simp)) hHeld ?_
    simp only [Act.put, List.setIfInBounds_toArray, List.set_cons_zero, List.set_cons_succ]
    refine wpAnyH_takeW (i := 7) (v := .pointer (some ⟨R, 0, none⟩)) rfl (by kernel_rfl) (by kernel_rfl) (by kernel_rfl) (fun _ _ _ h => h) (by rfl) (fun W hC => by (subst hC; go_simp)) hHeld ?_
    simp only [Act.put, List.setIfInBounds_toArray, List.set_cons_zero, List.set_cons_succ]
    refine wpAnyH_takeW (i := 8) (v := .pointer (some ⟨w.heap.size + 1, 0, none⟩)) rfl (by kernel_rfl) (by kernel_rfl) (by kernel_rfl) (fun _ _ _ h => h) (by rfl) (fun W hC => by (subst hC; go_simp)) hHeld ?_
    simp only [Act.put, List.setIfInBounds_toArray, List.set_cons_zero, List.set_cons_succ]
    refine wpAnyH_takeW (i := 9) (v := .int .i64 x0) rfl (by kernel_rfl) (by kernel_rfl) (by kernel_rfl) (fun _ _ _ h => h) (by rfl) (fun W hC => by (subst hC; go_simp)) hHeld ?_
    simp only [Act.put, List.setIfInBounds_toArray, List.set_cons_zero, List.set_cons_succ]
    refine wpAnyH_takeW (i := 11) (v := .pointer (some ⟨R, 0, none⟩)) rfl (by kernel_rfl) (by kernel_rfl) (by kernel_rfl) (fun _ _ _ h => h) (by rfl) (fun W hC => by (subst hC; go_simp)) hHeld ?_
    simp only [Act.put, List.setIfInBounds_toArray, List.set_cons_zero, List.set_cons_succ]
    refine wpAnyH_takeW (i := 12) (v := .pointer (some ⟨w.heap.size + 1, 1, none⟩)) rfl (by kernel_rfl) (by kernel_rfl) (by kernel_rfl) (fun _ _ _ h => h) (by rfl) (fun W hC => by (subst hC; go_simp)) hHeld ?_
    simp only [Act.put, List.setIfInBounds_toArray, List.set_cons_zero, List.set_cons_succ]
    refine wpAnyH_takeW (i := 13) (v := .int .i64 x1) rfl (by kernel_rfl) (by kernel_rfl) (by kernel_rfl) (fun _ _ _ h => h) (by rfl) (fun W hC => by (subst hC; go_simp)) hHeld ?_
    simp only [Act.put, List.setIfInBounds_toArray, List.set_cons_zero, List.set_cons_succ]
    refine wpAnyH_ready (rs := [10]) (by kernel_rfl) (by simp) ?_
    refine AllReadyH.consW rfl (fun K hK => ?_) AllReadyH.nil
    go_simp
    refine HL0.out.mono ?_
    rintro e w2 ⟨rfl, rfl⟩
    exact ⟨rfl, HG.out, .inr (.inr ⟨HW.out, rfl⟩)⟩

set_option maxRecDepth 100000 in
set_option maxHeartbeats 1000000 in
theorem pwork_3 (p R b B nB : Nat) (aL : Option Addr) (nL cL : Nat) (ia ib ic x0 x1 x2 : Int) (n : Rg) (cs : List (Int × Int)) (w : World) (h3 : 3 ≤ p) (h4 : p ≤ 2147483647) (hR : RnAt w R b B aL nL cL n) (hM : MapAt w B nB cs) (hp : w.cell? ⟨b, 0, none⟩ = some (.int .i64 p)) (hnB : nB + 2 < maxLen) (hx : I64 x0 ∧ I64 x1 ∧ I64 x2) (hcs : ∀ x, 0 ≤ cvl cs x ∧ cvl cs x < p) :
    Calls Tryz.prog 79 #[.pointer (some ⟨R, 0, none⟩), .agg #[.int .i64 3, .int .i64 ia, .int .i64 ib, .int .i64 ic], .agg #[.int .i64 x0, .int .i64 x1, .int .i64 x2]] w (WpR B (nB + 2) (wrk p 3 ib x0 x1 x2 n cs) w) := by
  have hmx : Tryz.prog.follows .mixedOrders = true := by kernel_rfl
  have HP := hid (woP_of p R b B nB aL nL cL 3 ia ib ic x0 x1 x2 n cs w hR hM hp)
  obtain ⟨W0, hW0⟩ : ∃ W0, W0 = (w.alloc (.cells #[.int .i64 3, .int .i64 ia, .int .i64 ib, .int .i64 ic] 45)).alloc (.cells #[.int .i64 x0, .int .i64 x1, .int .i64 x2] 64) := ⟨_, rfl⟩
  rw [← hW0] at HP
  have hpc := HP.out.hp
  have hbd : Below w.heap.size w W0.drew := HP.out.bel.drew
  have hRd : RnAt W0.drew R b B aL nL cL n := HP.out.rn
  have hMd : MapAt W0.drew B nB cs := HP.out.mp
  have c0 : W0.cell? ⟨R, 0, none⟩ = some (.pointer (some ⟨b, 0, none⟩)) := HP.out.rn.cell (i := 0) (by decide)
  have c3 : W0.cell? ⟨R, 3, none⟩ = some (.int .i64 n.pc) := HP.out.rn.cell (i := 3) (by decide)
  have c4 : W0.cell? ⟨R, 4, none⟩ = some (.int .i64 n.fp) := HP.out.rn.cell (i := 4) (by decide)
  have c6 : W0.cell? ⟨R, 6, none⟩ = some (.int .i64 n.rv) := HP.out.rn.cell (i := 6) (by decide)
  have j2 : W0.cell? ⟨w.heap.size, 2, none⟩ = some (.int .i64 ib) := by simp [World.cell?, HP.out.i]
  have a0 : W0.cell? ⟨w.heap.size + 1, 0, none⟩ = some (.int .i64 x0) := by simp [World.cell?, HP.out.r]
  have a1 : W0.cell? ⟨w.heap.size + 1, 1, none⟩ = some (.int .i64 x1) := by simp [World.cell?, HP.out.r]
  have a2 : W0.cell? ⟨w.heap.size + 1, 2, none⟩ = some (.int .i64 x2) := by simp [World.cell?, HP.out.r]
  have HG : Hid (w.grownBy W0.drew (some B)) := grB hbd
  have HBD := hid hbd
  have HNB := hid hnB

  by_cases t0 : 0 ≤ finz cs x0
  · by_cases t1 : 0 ≤ finz cs x1
    · have HL0 := hid (plook_yes R b B nB aL nL cL n cs x0 W0.drew hRd hMd hx.1 t0)
      have HL1 := hid (plook_yes R b B nB aL nL cL n cs x1 W0.drew hRd hMd hx.2.1 t1)
      have b0 := hcs x0
      have b1 := hcs x1
      have hz : cvl cs x0 * cvl cs x1 % (p : Int) = rkn p 3 (cvl cs x0) (cvl cs x1) := by simp [rkn]
      have HOP : Hid (Calls Tryz.prog 87 #[.pointer (some ⟨b, 0, none⟩), .int .i64 (cvl cs x0), .int .i64 (cvl cs x1)] W0.drew fun e w' => e = .returned (.int .i64 (rkn p 3 (cvl cs x0) (cvl cs x1))) ∧ w' = W0.drew) := by
        rw [← hz]
        exact mul_any p b _ _ W0.drew h3 h4 hpc (by omega) (by omega) (by omega) (by omega)
      clear hz
      have HT := hid (ptell_any R b B nB aL nL cL n cs x2 (rkn p 3 (cvl cs x0) (cvl cs x1)) W0.drew hRd hMd (by omega) hx.2.2 (rkn_fit h3 h4 _ _ _))
      have HW : Hid (wrk p 3 ib x0 x1 x2 n cs = tel cs x2 (rkn p 3 (cvl cs x0) (cvl cs x1))) := by unfold Hid wrk; simp [t0, t1]
      generalize rkn p 3 (cvl cs x0) (cvl cs x1) = z at *
      generalize cvl cs x0 = v0 at *
      generalize cvl cs x1 = v1 at *
      clear hRd hMd hbd hR hM hp hx hcs b0 b1 t0 t1 h3 h4
      go_enter Tryz.func79, Tryz.ntmps79
      go_wp2_with fail
      rw [← hW0]
      clear hW0
      refine wp_region_still_tail 16 hmx (by kernel_rfl) ?_
      simp only [List.take_succ_cons, List.take_zero, List.drop_succ_cons, List.drop_zero]
      repeat still_step
      still_call HL0.out
      repeat still_step
      still_call HL1.out
      repeat still_step
      still_call HOP.out
      repeat still_step
      refine wpStill_nil ?_
      go_wp2_with fail
      refine HT.out.mono ?_
      rintro e w2 ⟨hg2, ⟨h0, rfl, hm2⟩ | ⟨h7, rfl⟩ | ⟨h10, rfl⟩⟩
      · have HE : Hid (WpR B (nB + 2) (wrk p 3 ib x0 x1 x2 n cs) w (.returned (.tuple #[])) w2) := by
          rw [HW.out]
          exact ⟨grW HBD.out hg2, .inl ⟨h0, rfl, hm2.mono (by omega)⟩⟩
        clear hg2 h0 hm2 HT
        go_wp2_with fail
        go_end0
        exact HE.out
      · exact ⟨rfl, by rw [HW.out]; exact ⟨grW HBD.out hg2, .inr (.inl ⟨h7, rfl⟩)⟩⟩
      · exact ⟨rfl, by rw [HW.out]; exact ⟨grW HBD.out hg2, .inr (.inr ⟨h10, rfl⟩)⟩⟩
    · have HL0 := hid (plook_yes R b B nB aL nL cL n cs x0 W0.drew hRd hMd hx.1 t0)
      have HL1 := hid (plook_no R b B nB aL nL cL n cs x1 W0.drew hRd hMd hx.2.1 t1)
      have HW : Hid ((wrk p 3 ib x0 x1 x2 n cs).1 = 10) := by unfold Hid wrk; simp [t0, t1]
      clear hRd hMd hbd hR hM hp hx hcs t0 t1 h3 h4
      go_enter Tryz.func79, Tryz.ntmps79
      go_wp2_with fail
      rw [← hW0]
      clear hW0
      refine wp_region_held_drew (S := (fun W => W = W0.drew)) (by kernel_rfl) rfl (fun hHeld => ?_)
      refine wpAnyH_takeW (i := 0) (v := .pointer (some ⟨R, 0, none⟩)) rfl (by kernel_rfl) (by kernel_rfl) (by kernel_rfl) (fun _ _ _ h => h) (by rfl) (fun W hC => by (subst hC; go_simp)) hHeld ?_
      simp only [Act.put, List.setIfInBounds_toArray, List.set_cons_zero, List.set_cons_succ]
      refine wpAnyH_takeW (i := 1) (v := .pointer (some ⟨w.heap.size + 1, 2, none⟩)) rfl (by kernel_rfl) (by kernel_rfl) (by kernel_rfl) (fun _ _ _ h => h) (by rfl) (fun W hC => by (subst hC; go_simp)) hHeld ?_
      simp only [Act.put, List.setIfInBounds_toArray, List.set_cons_zero, List.set_cons_succ]
      refine wpAnyH_takeW (i := 2) (v := .int .i64 x2) rfl (by kernel_rfl) (by kernel_rfl) (by kernel_rfl) (fun _ _ _ h => h) (by rfl) (fun W hC => by (subst hC; go_simp)) hHeld ?_
      simp only [Act.put, List.setIfInBounds_toArray, List.set_cons_zero, List.set_cons_succ]
      refine wpAnyH_takeW (i := 3) (v := .pointer (some ⟨R, 0, none⟩)) rfl (by kernel_rfl) (by kernel_rfl) (by kernel_rfl) (fun _ _ _ h => h) (by rfl) (fun W hC => by (subst hC; go_simp)) hHeld ?_
      simp only [Act.put, List.setIfInBounds_toArray, List.set_cons_zero, List.set_cons_succ]
      refine wpAnyH_takeW (i := 4) (v := .pointer (some ⟨R, 0, none⟩)) rfl (by kernel_rfl) (by kernel_rfl) (by kernel_rfl) (fun _ _ _ h => h) (by rfl) (fun W hC => by (subst hC; go_simp)) hHeld ?_
      simp only [Act.put, List.setIfInBounds_toArray, List.set_cons_zero, List.set_cons_succ]
      refine wpAnyH_takeW (i := 5) (v := .pointer (some ⟨R, 0, none⟩)) rfl (by kernel_rfl) (by kernel_rfl) (by kernel_rfl) (fun _ _ _ h => h) (by rfl) (fun W hC => by (subst hC; go_simp)) hHeld ?_
      simp only [Act.put, List.setIfInBounds_toArray, List.set_cons_zero, List.set_cons_succ]
      refine wpAnyH_takeW (i := 6) (v := .pointer (some ⟨b, 0, none⟩)) rfl (by kernel_rfl) (by kernel_rfl) (by kernel_rfl) (fun _ _ _ h => h) (by rfl) (fun W hC => by (subst hC; go_simp)) hHeld ?_
      simp only [Act.put, List.setIfInBounds_toArray, List.set_cons_zero, List.set_cons_succ]
      refine wpAnyH_takeW (i := 7) (v := .pointer (some ⟨R, 0, none⟩)) rfl (by kernel_rfl) (by kernel_rfl) (by kernel_rfl) (fun _ _ _ h => h) (by rfl) (fun W hC => by (subst hC; go_simp)) hHeld ?_
      simp only [Act.put, List.setIfInBounds_toArray, List.set_cons_zero, List.set_cons_succ]
      refine wpAnyH_takeW (i := 8) (v := .pointer (some ⟨w.heap.size + 1, 0, none⟩)) rfl (by kernel_rfl) (by kernel_rfl) (by kernel_rfl) (fun _ _ _ h => h) (by rfl) (fun W hC => by (subst hC; go_simp)) hHeld ?_
      simp only [Act.put, List.setIfInBounds_toArray, List.set_cons_zero, List.set_cons_succ]
      refine wpAnyH_takeW (i := 9) (v := .int .i64 x0) rfl (by kernel_rfl) (by kernel_rfl) (by kernel_rfl) (fun _ _ _ h => h) (by rfl) (fun W hC => by (subst hC; go_simp)) hHeld ?_
      simp only [Act.put, List.setIfInBounds_toArray, List.set_cons_zero, List.set_cons_succ]
      refine wpAnyH_takeW (i := 11) (v := .pointer (some ⟨R, 0, none⟩)) rfl (by kernel_rfl) (by kernel_rfl) (by kernel_rfl) (fun _ _ _ h => h) (by rfl) (fun W hC => by (subst hC; go_simp)) hHeld ?_
      simp only [Act.put, List.setIfInBounds_toArray, List.set_cons_zero, List.set_cons_succ]
      refine wpAnyH_takeW (i := 12) (v := .pointer (some ⟨w.heap.size + 1, 1, none⟩)) rfl (by kernel_rfl) (by kernel_rfl) (by kernel_rfl) (fun _ _ _ h => h) (by rfl) (fun W hC => by (subst hC; go_simp)) hHeld ?_
      simp only [Act.put, List.setIfInBounds_toArray, List.set_cons_zero, List.set_cons_succ]
      refine wpAnyH_takeW (i := 13) (v := .int .i64 x1) rfl (by kernel_rfl) (by kernel_rfl) (by kernel_rfl) (fun _ _ _ h => h) (by rfl) (fun W hC => by (subst hC; go_simp)) hHeld ?_
      simp only [Act.put, List.setIfInBounds_toArray, List.set_cons_zero, List.set_cons_succ]
      refine wpAnyH_ready (rs := [10]) (by kernel_rfl) (by simp) ?_
      refine AllReadyH.consW rfl (fun K hK => ?_) AllReadyH.nil
      go_simp
      refine HL0.out.mono ?_
      rintro e w2 ⟨rfl, rfl⟩
      refine hK.out _ _ rfl (fun hHeld => ?_)
      clear hK K
      refine wpAnyH_ready (rs := [14]) (by kernel_rfl) (by simp) ?_
      refine AllReadyH.consW rfl (fun K hK => ?_) AllReadyH.nil
      go_simp
      refine HL1.out.mono ?_
      rintro e w2 ⟨rfl, rfl⟩
      exact ⟨rfl, HG.out, .inr (.inr ⟨HW.out, rfl⟩)⟩
  · have HL0 := hid (plook_no R b B nB aL nL cL n cs x0 W0.drew hRd hMd hx.1 t0)
    have HW : Hid ((wrk p 3 ib x0 x1 x2 n cs).1 = 10) := by unfold Hid wrk; simp [t0]
    clear hRd hMd hbd hR hM hp hx hcs t0 h3 h4
    go_enter Tryz.func79, Tryz.ntmps79
    go_wp2_with fail
    rw [← hW0]
    clear hW0
    refine wp_region_held_drew (S := (fun W => W = W0.drew)) (by kernel_rfl) rfl (fun hHeld => ?_)
    refine wpAnyH_takeW (i := 0) (v := .pointer (some ⟨R, 0, none⟩)) rfl (by kernel_rfl) (by kernel_rfl) (by kernel_rfl) (fun _ _ _ h => h) (by rfl) (fun W hC => by (subst hC; go_simp)) hHeld ?_
    simp only [Act.put, List.setIfInBounds_toArray, List.set_cons_zero, List.set_cons_succ]
    refine wpAnyH_takeW (i := 1) (v := .pointer (some ⟨w.heap.size + 1, 2, none⟩)) rfl (by kernel_rfl) (by kernel_rfl) (by kernel_rfl) (fun _ _ _ h => h) (by rfl) (fun W hC => by (subst hC; go_simp)) hHeld ?_
    simp only [Act.put, List.setIfInBounds_toArray, List.set_cons_zero, List.set_cons_succ]
    refine wpAnyH_takeW (i := 2) (v := .int .i64 x2) rfl (by kernel_rfl) (by kernel_rfl) (by kernel_rfl) (fun _ _ _ h => h) (by rfl) (fun W hC => by (subst hC; go_simp)) hHeld ?_
    simp only [Act.put, List.setIfInBounds_toArray, List.set_cons_zero, List.set_cons_succ]
    refine wpAnyH_takeW (i := 3) (v := .pointer (some ⟨R, 0, none⟩)) rfl (by kernel_rfl) (by kernel_rfl) (by kernel_rfl) (fun _ _ _ h => h) (by rfl) (fun W hC => by (subst hC; go_simp)) hHeld ?_
    simp only [Act.put, List.setIfInBounds_toArray, List.set_cons_zero, List.set_cons_succ]
    refine wpAnyH_takeW (i := 4) (v := .pointer (some ⟨R, 0, none⟩)) rfl (by kernel_rfl) (by kernel_rfl) (by kernel_rfl) (fun _ _ _ h => h) (by rfl) (fun W hC => by (subst hC; go_simp)) hHeld ?_
    simp only [Act.put, List.setIfInBounds_toArray, List.set_cons_zero, List.set_cons_succ]
    refine wpAnyH_takeW (i := 5) (v := .pointer (some ⟨R, 0, none⟩)) rfl (by kernel_rfl) (by kernel_rfl) (by kernel_rfl) (fun _ _ _ h => h) (by rfl) (fun W hC => by (subst hC; go_simp)) hHeld ?_
    simp only [Act.put, List.setIfInBounds_toArray, List.set_cons_zero, List.set_cons_succ]
    refine wpAnyH_takeW (i := 6) (v := .pointer (some ⟨b, 0, none⟩)) rfl (by kernel_rfl) (by kernel_rfl) (by kernel_rfl) (fun _ _ _ h => h) (by rfl) (fun W hC => by (subst hC; go_simp)) hHeld ?_
    simp only [Act.put, List.setIfInBounds_toArray, List.set_cons_zero, List.set_cons_succ]
    refine wpAnyH_takeW (i := 7) (v := .pointer (some ⟨R, 0, none⟩)) rfl (by kernel_rfl) (by kernel_rfl) (by kernel_rfl) (fun _ _ _ h => h) (by rfl) (fun W hC => by (subst hC; go_simp)) hHeld ?_
    simp only [Act.put, List.setIfInBounds_toArray, List.set_cons_zero, List.set_cons_succ]
    refine wpAnyH_takeW (i := 8) (v := .pointer (some ⟨w.heap.size + 1, 0, none⟩)) rfl (by kernel_rfl) (by kernel_rfl) (by kernel_rfl) (fun _ _ _ h => h) (by rfl) (fun W hC => by (subst hC; go_simp)) hHeld ?_
    simp only [Act.put, List.setIfInBounds_toArray, List.set_cons_zero, List.set_cons_succ]
    refine wpAnyH_takeW (i := 9) (v := .int .i64 x0) rfl (by kernel_rfl) (by kernel_rfl) (by kernel_rfl) (fun _ _ _ h => h) (by rfl) (fun W hC => by (subst hC; go_simp)) hHeld ?_
    simp only [Act.put, List.setIfInBounds_toArray, List.set_cons_zero, List.set_cons_succ]
    refine wpAnyH_takeW (i := 11) (v := .pointer (some ⟨R, 0, none⟩)) rfl (by kernel_rfl) (by kernel_rfl) (by kernel_rfl) (fun _ _ _ h => h) (by rfl) (fun W hC => by (subst hC; go_simp)) hHeld ?_
    simp only [Act.put, List.setIfInBounds_toArray, List.set_cons_zero, List.set_cons_succ]
    refine wpAnyH_takeW (i := 12) (v := .pointer (some ⟨w.heap.size + 1, 1, none⟩)) rfl (by kernel_rfl) (by kernel_rfl) (by kernel_rfl) (fun _ _ _ h => h) (by rfl) (fun W hC => by (subst hC; go_simp)) hHeld ?_
    simp only [Act.put, List.setIfInBounds_toArray, List.set_cons_zero, List.set_cons_succ]
    refine wpAnyH_takeW (i := 13) (v := .int .i64 x1) rfl (by kernel_rfl) (by kernel_rfl) (by kernel_rfl) (fun _ _ _ h => h) (by rfl) (fun W hC => by (subst hC; go_simp)) hHeld ?_
    simp only [Act.put, List.setIfInBounds_toArray, List.set_cons_zero, List.set_cons_succ]
    refine wpAnyH_ready (rs := [10]) (by kernel_rfl) (by simp) ?_
    refine AllReadyH.consW rfl (fun K hK => ?_) AllReadyH.nil
    go_simp
    refine HL0.out.mono ?_
    rintro e w2 ⟨rfl, rfl⟩
    exact ⟨rfl, HG.out, .inr (.inr ⟨HW.out, rfl⟩)⟩

end Go.Proofs.YtdpdmgmeieijaaaGreatDoor

namespace Go.Proofs.YtdpdmgmeieijaaaGreatDoor
open Go.RowKit Go.Maps

set_option maxRecDepth 100000 in
set_option maxHeartbeats 1000000 in
theorem pwork_6 (p R b B nB : Nat) (aL : Option Addr) (nL cL : Nat) (ia ib ic x0 x1 x2 : Int) (n : Rg) (cs : List (Int × Int)) (w : World) (h3 : 3 ≤ p) (h4 : p ≤ 2147483647) (hR : RnAt w R b B aL nL cL n) (hM : MapAt w B nB cs) (hp : w.cell? ⟨b, 0, none⟩ = some (.int .i64 p)) (hnB : nB + 2 < maxLen) (hx : I64 x0 ∧ I64 x1 ∧ I64 x2) :
    Calls Tryz.prog 79 #[.pointer (some ⟨R, 0, none⟩), .agg #[.int .i64 6, .int .i64 ia, .int .i64 ib, .int .i64 ic], .agg #[.int .i64 x0, .int .i64 x1, .int .i64 x2]] w (WpR B (nB + 2) (wrk p 6 ib x0 x1 x2 n cs) w) := by
  have hmx : Tryz.prog.follows .mixedOrders = true := by kernel_rfl
  have HP := hid (woP_of p R b B nB aL nL cL 6 ia ib ic x0 x1 x2 n cs w hR hM hp)
  obtain ⟨W0, hW0⟩ : ∃ W0, W0 = (w.alloc (.cells #[.int .i64 6, .int .i64 ia, .int .i64 ib, .int .i64 ic] 45)).alloc (.cells #[.int .i64 x0, .int .i64 x1, .int .i64 x2] 64) := ⟨_, rfl⟩
  rw [← hW0] at HP
  have hpc := HP.out.hp
  have hbd : Below w.heap.size w W0.drew := HP.out.bel.drew
  have hRd : RnAt W0.drew R b B aL nL cL n := HP.out.rn
  have hMd : MapAt W0.drew B nB cs := HP.out.mp
  have c0 : W0.cell? ⟨R, 0, none⟩ = some (.pointer (some ⟨b, 0, none⟩)) := HP.out.rn.cell (i := 0) (by decide)
  have c3 : W0.cell? ⟨R, 3, none⟩ = some (.int .i64 n.pc) := HP.out.rn.cell (i := 3) (by decide)
  have c4 : W0.cell? ⟨R, 4, none⟩ = some (.int .i64 n.fp) := HP.out.rn.cell (i := 4) (by decide)
  have c6 : W0.cell? ⟨R, 6, none⟩ = some (.int .i64 n.rv) := HP.out.rn.cell (i := 6) (by decide)
  have j2 : W0.cell? ⟨w.heap.size, 2, none⟩ = some (.int .i64 ib) := by simp [World.cell?, HP.out.i]
  have a0 : W0.cell? ⟨w.heap.size + 1, 0, none⟩ = some (.int .i64 x0) := by simp [World.cell?, HP.out.r]
  have a1 : W0.cell? ⟨w.heap.size + 1, 1, none⟩ = some (.int .i64 x1) := by simp [World.cell?, HP.out.r]
  have a2 : W0.cell? ⟨w.heap.size + 1, 2, none⟩ = some (.int .i64 x2) := by simp [World.cell?, HP.out.r]
  have HG : Hid (w.grownBy W0.drew (some B)) := grB hbd
  have HBD := hid hbd
  have HNB := hid hnB

  by_cases t0 : 0 ≤ finz cs x0
  · by_cases t1 : 0 ≤ finz cs x1
    · have HL0 := hid (plook_yes R b B nB aL nL cL n cs x0 W0.drew hRd hMd hx.1 t0)
      have HL1 := hid (plook_yes R b B nB aL nL cL n cs x1 W0.drew hRd hMd hx.2.1 t1)
      have HOP : Hid (Calls Tryz.prog 109 #[.bool (cvl cs x0 == cvl cs x1)] W0.drew fun e w' => e = .returned (.int .i64 (rkn p 6 (cvl cs x0) (cvl cs x1))) ∧ w' = W0.drew) := by
        refine (pone_any _ W0.drew).mono ?_
        rintro e w' ⟨rfl, rfl⟩
        exact ⟨by simp [rkn], rfl⟩
      have HT := hid (ptell_any R b B nB aL nL cL n cs x2 (rkn p 6 (cvl cs x0) (cvl cs x1)) W0.drew hRd hMd (by omega) hx.2.2 (rkn_fit h3 h4 _ _ _))
      have HW : Hid (wrk p 6 ib x0 x1 x2 n cs = tel cs x2 (rkn p 6 (cvl cs x0) (cvl cs x1))) := by unfold Hid wrk; simp [t0, t1]
      generalize rkn p 6 (cvl cs x0) (cvl cs x1) = z at *
      generalize cvl cs x0 = v0 at *
      generalize cvl cs x1 = v1 at *
      clear hRd hMd hbd hR hM hp hx t0 t1 h3 h4
      go_enter Tryz.func79, Tryz.ntmps79
      go_wp2_with fail
      rw [← hW0]
      clear hW0
      refine wp_region_still_tail 13 hmx (by kernel_rfl) ?_
      simp only [List.take_succ_cons, List.take_zero, List.drop_succ_cons, List.drop_zero]
      repeat still_step
      still_call HL0.out
      repeat still_step
      still_call HL1.out
      repeat still_step
      still_call HOP.out
      repeat still_step
      refine wpStill_nil ?_
      go_wp2_with fail
      refine HT.out.mono ?_
      rintro e w2 ⟨hg2, ⟨h0, rfl, hm2⟩ | ⟨h7, rfl⟩ | ⟨h10, rfl⟩⟩
      · have HE : Hid (WpR B (nB + 2) (wrk p 6 ib x0 x1 x2 n cs) w (.returned (.tuple #[])) w2) := by
          rw [HW.out]
          exact ⟨grW HBD.out hg2, .inl ⟨h0, rfl, hm2.mono (by omega)⟩⟩
        clear hg2 h0 hm2 HT
        go_wp2_with fail
        go_end0
        exact HE.out
      · exact ⟨rfl, by rw [HW.out]; exact ⟨grW HBD.out hg2, .inr (.inl ⟨h7, rfl⟩)⟩⟩
      · exact ⟨rfl, by rw [HW.out]; exact ⟨grW HBD.out hg2, .inr (.inr ⟨h10, rfl⟩)⟩⟩
    · have HL0 := hid (plook_yes R b B nB aL nL cL n cs x0 W0.drew hRd hMd hx.1 t0)
      have HL1 := hid (plook_no R b B nB aL nL cL n cs x1 W0.drew hRd hMd hx.2.1 t1)
      have HW : Hid ((wrk p 6 ib x0 x1 x2 n cs).1 = 10) := by unfold Hid wrk; simp [t0, t1]
      clear hRd hMd hbd hR hM hp hx t0 t1 h3 h4
      go_enter Tryz.func79, Tryz.ntmps79
      go_wp2_with fail
      rw [← hW0]
      clear hW0
      refine wp_region_held_drew (S := (fun W => W = W0.drew)) (by kernel_rfl) rfl (fun hHeld => ?_)
      refine wpAnyH_takeW (i := 0) (v := .pointer (some ⟨R, 0, none⟩)) rfl (by kernel_rfl) (by kernel_rfl) (by kernel_rfl) (fun _ _ _ h => h) (by rfl) (fun W hC => by (subst hC; go_simp)) hHeld ?_
      simp only [Act.put, List.setIfInBounds_toArray, List.set_cons_zero, List.set_cons_succ]
      refine wpAnyH_takeW (i := 1) (v := .pointer (some ⟨w.heap.size + 1, 2, none⟩)) rfl (by kernel_rfl) (by kernel_rfl) (by kernel_rfl) (fun _ _ _ h => h) (by rfl) (fun W hC => by (subst hC; go_simp)) hHeld ?_
      simp only [Act.put, List.setIfInBounds_toArray, List.set_cons_zero, List.set_cons_succ]
      refine wpAnyH_takeW (i := 2) (v := .int .i64 x2) rfl (by kernel_rfl) (by kernel_rfl) (by kernel_rfl) (fun _ _ _ h => h) (by rfl) (fun W hC => by (subst hC; go_simp)) hHeld ?_
      simp only [Act.put, List.setIfInBounds_toArray, List.set_cons_zero, List.set_cons_succ]
      refine wpAnyH_takeW (i := 3) (v := .pointer (some ⟨R, 0, none⟩)) rfl (by kernel_rfl) (by kernel_rfl) (by kernel_rfl) (fun _ _ _ h => h) (by rfl) (fun W hC => by (subst hC; go_simp)) hHeld ?_
      simp only [Act.put, List.setIfInBounds_toArray, List.set_cons_zero, List.set_cons_succ]
      refine wpAnyH_takeW (i := 4) (v := .pointer (some ⟨w.heap.size + 1, 0, none⟩)) rfl (by kernel_rfl) (by kernel_rfl) (by kernel_rfl) (fun _ _ _ h => h) (by rfl) (fun W hC => by (subst hC; go_simp)) hHeld ?_
      simp only [Act.put, List.setIfInBounds_toArray, List.set_cons_zero, List.set_cons_succ]
      refine wpAnyH_takeW (i := 5) (v := .int .i64 x0) rfl (by kernel_rfl) (by kernel_rfl) (by kernel_rfl) (fun _ _ _ h => h) (by rfl) (fun W hC => by (subst hC; go_simp)) hHeld ?_
      simp only [Act.put, List.setIfInBounds_toArray, List.set_cons_zero, List.set_cons_succ]
      refine wpAnyH_takeW (i := 7) (v := .pointer (some ⟨R, 0, none⟩)) rfl (by kernel_rfl) (by kernel_rfl) (by kernel_rfl) (fun _ _ _ h => h) (by rfl) (fun W hC => by (subst hC; go_simp)) hHeld ?_
      simp only [Act.put, List.setIfInBounds_toArray, List.set_cons_zero, List.set_cons_succ]
      refine wpAnyH_takeW (i := 8) (v := .pointer (some ⟨w.heap.size + 1, 1, none⟩)) rfl (by kernel_rfl) (by kernel_rfl) (by kernel_rfl) (fun _ _ _ h => h) (by rfl) (fun W hC => by (subst hC; go_simp)) hHeld ?_
      simp only [Act.put, List.setIfInBounds_toArray, List.set_cons_zero, List.set_cons_succ]
      refine wpAnyH_takeW (i := 9) (v := .int .i64 x1) rfl (by kernel_rfl) (by kernel_rfl) (by kernel_rfl) (fun _ _ _ h => h) (by rfl) (fun W hC => by (subst hC; go_simp)) hHeld ?_
      simp only [Act.put, List.setIfInBounds_toArray, List.set_cons_zero, List.set_cons_succ]
      refine wpAnyH_ready (rs := [6]) (by kernel_rfl) (by simp) ?_
      refine AllReadyH.consW rfl (fun K hK => ?_) AllReadyH.nil
      go_simp
      refine HL0.out.mono ?_
      rintro e w2 ⟨rfl, rfl⟩
      refine hK.out _ _ rfl (fun hHeld => ?_)
      clear hK K
      refine wpAnyH_ready (rs := [10]) (by kernel_rfl) (by simp) ?_
      refine AllReadyH.consW rfl (fun K hK => ?_) AllReadyH.nil
      go_simp
      refine HL1.out.mono ?_
      rintro e w2 ⟨rfl, rfl⟩
      exact ⟨rfl, HG.out, .inr (.inr ⟨HW.out, rfl⟩)⟩
  · have HL0 := hid (plook_no R b B nB aL nL cL n cs x0 W0.drew hRd hMd hx.1 t0)
    have HW : Hid ((wrk p 6 ib x0 x1 x2 n cs).1 = 10) := by unfold Hid wrk; simp [t0]
    clear hRd hMd hbd hR hM hp hx t0 h3 h4
    go_enter Tryz.func79, Tryz.ntmps79
    go_wp2_with fail
    rw [← hW0]
    clear hW0
    refine wp_region_held_drew (S := (fun W => W = W0.drew)) (by kernel_rfl) rfl (fun hHeld => ?_)
    refine wpAnyH_takeW (i := 0) (v := .pointer (some ⟨R, 0, none⟩)) rfl (by kernel_rfl) (by kernel_rfl) (by kernel_rfl) (fun _ _ _ h => h) (by rfl) (fun W hC => by (subst hC; go_simp)) hHeld ?_
    simp only [Act.put, List.setIfInBounds_toArray, List.set_cons_zero, List.set_cons_succ]
    refine wpAnyH_takeW (i := 1) (v := .pointer (some ⟨w.heap.size + 1, 2, none⟩)) rfl (by kernel_rfl) (by kernel_rfl) (by kernel_rfl) (fun _ _ _ h => h) (by rfl) (fun W hC => by (subst hC; go_simp)) hHeld ?_
    simp only [Act.put, List.setIfInBounds_toArray, List.set_cons_zero, List.set_cons_succ]
    refine wpAnyH_takeW (i := 2) (v := .int .i64 x2) rfl (by kernel_rfl) (by kernel_rfl) (by kernel_rfl) (fun _ _ _ h => h) (by rfl) (fun W hC => by (subst hC; go_simp)) hHeld ?_
    simp only [Act.put, List.setIfInBounds_toArray, List.set_cons_zero, List.set_cons_succ]
    refine wpAnyH_takeW (i := 3) (v := .pointer (some ⟨R, 0, none⟩)) rfl (by kernel_rfl) (by kernel_rfl) (by kernel_rfl) (fun _ _ _ h => h) (by rfl) (fun W hC => by (subst hC; go_simp)) hHeld ?_
    simp only [Act.put, List.setIfInBounds_toArray, List.set_cons_zero, List.set_cons_succ]
    refine wpAnyH_takeW (i := 4) (v := .pointer (some ⟨w.heap.size + 1, 0, none⟩)) rfl (by kernel_rfl) (by kernel_rfl) (by kernel_rfl) (fun _ _ _ h => h) (by rfl) (fun W hC => by (subst hC; go_simp)) hHeld ?_
    simp only [Act.put, List.setIfInBounds_toArray, List.set_cons_zero, List.set_cons_succ]
    refine wpAnyH_takeW (i := 5) (v := .int .i64 x0) rfl (by kernel_rfl) (by kernel_rfl) (by kernel_rfl) (fun _ _ _ h => h) (by rfl) (fun W hC => by (subst hC; go_simp)) hHeld ?_
    simp only [Act.put, List.setIfInBounds_toArray, List.set_cons_zero, List.set_cons_succ]
    refine wpAnyH_takeW (i := 7) (v := .pointer (some ⟨R, 0, none⟩)) rfl (by kernel_rfl) (by kernel_rfl) (by kernel_rfl) (fun _ _ _ h => h) (by rfl) (fun W hC => by (subst hC; go_simp)) hHeld ?_
    simp only [Act.put, List.setIfInBounds_toArray, List.set_cons_zero, List.set_cons_succ]
    refine wpAnyH_takeW (i := 8) (v := .pointer (some ⟨w.heap.size + 1, 1, none⟩)) rfl (by kernel_rfl) (by kernel_rfl) (by kernel_rfl) (fun _ _ _ h => h) (by rfl) (fun W hC => by (subst hC; go_simp)) hHeld ?_
    simp only [Act.put, List.setIfInBounds_toArray, List.set_cons_zero, List.set_cons_succ]
    refine wpAnyH_takeW (i := 9) (v := .int .i64 x1) rfl (by kernel_rfl) (by kernel_rfl) (by kernel_rfl) (fun _ _ _ h => h) (by rfl) (fun W hC => by (subst hC; go_simp)) hHeld ?_
    simp only [Act.put, List.setIfInBounds_toArray, List.set_cons_zero, List.set_cons_succ]
    refine wpAnyH_ready (rs := [6]) (by kernel_rfl) (by simp) ?_
    refine AllReadyH.consW rfl (fun K hK => ?_) AllReadyH.nil
    go_simp
    refine HL0.out.mono ?_
    rintro e w2 ⟨rfl, rfl⟩
    exact ⟨rfl, HG.out, .inr (.inr ⟨HW.out, rfl⟩)⟩

set_option maxRecDepth 100000 in
set_option maxHeartbeats 1000000 in
theorem pwork_7 (p R b B nB : Nat) (aL : Option Addr) (nL cL : Nat) (ia ib ic x0 x1 x2 : Int) (n : Rg) (cs : List (Int × Int)) (w : World) (hR : RnAt w R b B aL nL cL n) (hM : MapAt w B nB cs) (hp : w.cell? ⟨b, 0, none⟩ = some (.int .i64 p)) (hnB : nB + 2 < maxLen) (hx : I64 x0 ∧ I64 x1 ∧ I64 x2) :
    Calls Tryz.prog 79 #[.pointer (some ⟨R, 0, none⟩), .agg #[.int .i64 7, .int .i64 ia, .int .i64 ib, .int .i64 ic], .agg #[.int .i64 x0, .int .i64 x1, .int .i64 x2]] w (WpR B (nB + 2) (wrk p 7 ib x0 x1 x2 n cs) w) := by
  have hmx : Tryz.prog.follows .mixedOrders = true := by kernel_rfl
  have HP := hid (woP_of p R b B nB aL nL cL 7 ia ib ic x0 x1 x2 n cs w hR hM hp)
  obtain ⟨W0, hW0⟩ : ∃ W0, W0 = (w.alloc (.cells #[.int .i64 7, .int .i64 ia, .int .i64 ib, .int .i64 ic] 45)).alloc (.cells #[.int .i64 x0, .int .i64 x1, .int .i64 x2] 64) := ⟨_, rfl⟩
  rw [← hW0] at HP
  have hpc := HP.out.hp
  have hbd : Below w.heap.size w W0.drew := HP.out.bel.drew
  have hRd : RnAt W0.drew R b B aL nL cL n := HP.out.rn
  have hMd : MapAt W0.drew B nB cs := HP.out.mp
  have c0 : W0.cell? ⟨R, 0, none⟩ = some (.pointer (some ⟨b, 0, none⟩)) := HP.out.rn.cell (i := 0) (by decide)
  have c3 : W0.cell? ⟨R, 3, none⟩ = some (.int .i64 n.pc) := HP.out.rn.cell (i := 3) (by decide)
  have c4 : W0.cell? ⟨R, 4, none⟩ = some (.int .i64 n.fp) := HP.out.rn.cell (i := 4) (by decide)
  have c6 : W0.cell? ⟨R, 6, none⟩ = some (.int .i64 n.rv) := HP.out.rn.cell (i := 6) (by decide)
  have j2 : W0.cell? ⟨w.heap.size, 2, none⟩ = some (.int .i64 ib) := by simp [World.cell?, HP.out.i]
  have a0 : W0.cell? ⟨w.heap.size + 1, 0, none⟩ = some (.int .i64 x0) := by simp [World.cell?, HP.out.r]
  have a1 : W0.cell? ⟨w.heap.size + 1, 1, none⟩ = some (.int .i64 x1) := by simp [World.cell?, HP.out.r]
  have a2 : W0.cell? ⟨w.heap.size + 1, 2, none⟩ = some (.int .i64 x2) := by simp [World.cell?, HP.out.r]
  have HG : Hid (w.grownBy W0.drew (some B)) := grB hbd
  have HBD := hid hbd
  have HNB := hid hnB

  by_cases t0 : 0 ≤ finz cs x0
  · by_cases t1 : 0 ≤ finz cs x1
    · by_cases tv : cvl cs x0 = cvl cs x1
      · have HL0 := hid (plook_yes R b B nB aL nL cL n cs x0 W0.drew hRd hMd hx.1 t0)
        have HL1 := hid (plook_yes R b B nB aL nL cL n cs x1 W0.drew hRd hMd hx.2.1 t1)
        have hq : (cvl cs x0 == cvl cs x1) = true := by simp [tv]
        have HT := hid (pmust_yes W0.drew)
        have HE : Hid (WpR B (nB + 2) (wrk p 7 ib x0 x1 x2 n cs) w (.returned (.tuple #[])) W0.drew) := by
          have : wrk p 7 ib x0 x1 x2 n cs = (0, cs) := by unfold wrk; simp [t0, t1, tv]
          rw [Hid, this]
          exact ⟨HG.out, .inl ⟨rfl, rfl, hMd.mono (by omega)⟩⟩
        clear tv
        generalize cvl cs x0 = v0 at *
        generalize cvl cs x1 = v1 at *
        clear hRd hMd hbd hR hM hp hx t0 t1
        go_enter Tryz.func79, Tryz.ntmps79
        go_wp2_with fail
        rw [← hW0]
        clear hW0
        refine wp_region_still_tail 9 hmx (by kernel_rfl) ?_
        simp only [List.take_succ_cons, List.take_zero, List.drop_succ_cons, List.drop_zero]
        repeat still_step
        still_call HL0.out
        repeat still_step
        still_call HL1.out
        repeat still_step
        refine wpStill_nil ?_
        go_wp2_with fail
        refine HT.out.mono ?_
        rintro e w2 ⟨rfl, rfl⟩
        go_wp2_with fail
        go_end0
        exact HE.out
      · have HL0 := hid (plook_yes R b B nB aL nL cL n cs x0 W0.drew hRd hMd hx.1 t0)
        have HL1 := hid (plook_yes R b B nB aL nL cL n cs x1 W0.drew hRd hMd hx.2.1 t1)
        have hq : (cvl cs x0 == cvl cs x1) = false := by simp [tv]
        have HT := hid (pmust_no W0.drew)
        have HE : Hid (WpR B (nB + 2) (wrk p 7 ib x0 x1 x2 n cs) w (pnc 88) W0.drew) := by
          have : wrk p 7 ib x0 x1 x2 n cs = (7, cs) := by unfold wrk; simp [t0, t1, tv]
          rw [Hid, this]
          exact ⟨HG.out, .inr (.inl ⟨rfl, rfl⟩)⟩
        clear tv
        generalize cvl cs x0 = v0 at *
        generalize cvl cs x1 = v1 at *
        clear hRd hMd hbd hR hM hp hx t0 t1
        go_enter Tryz.func79, Tryz.ntmps79
        go_wp2_with fail
        rw [← hW0]
        clear hW0
        refine wp_region_still_tail 9 hmx (by kernel_rfl) ?_
        simp only [List.take_succ_cons, List.take_zero, List.drop_succ_cons, List.drop_zero]
        repeat still_step
        still_call HL0.out
        repeat still_step
        still_call HL1.out
        repeat still_step
        refine wpStill_nil ?_
        go_wp2_with fail
        refine HT.out.mono ?_
        rintro e w2 ⟨rfl, rfl⟩
        exact ⟨rfl, HE.out⟩
    · have HL0 := hid (plook_yes R b B nB aL nL cL n cs x0 W0.drew hRd hMd hx.1 t0)
      have HL1 := hid (plook_no R b B nB aL nL cL n cs x1 W0.drew hRd hMd hx.2.1 t1)
      have HW : Hid ((wrk p 7 ib x0 x1 x2 n cs).1 = 10) := by unfold Hid wrk; simp [t0, t1]
      clear hRd hMd hbd hR hM hp hx t0 t1
      go_enter Tryz.func79, Tryz.ntmps79
      go_wp2_with fail
      rw [← hW0]
      clear hW0
      refine wp_region_held_drew (S := (fun W => W = W0.drew)) (by kernel_rfl) rfl (fun hHeld => ?_)
      refine wpAnyH_takeW (i := 0) (v := .pointer (some ⟨R, 0, none⟩)) rfl (by kernel_rfl) (by kernel_rfl) (by kernel_rfl) (fun _ _ _ h => h) (by rfl) (fun W hC => by (subst hC; go_simp)) hHeld ?_
      simp only [Act.put, List.setIfInBounds_toArray, List.set_cons_zero, List.set_cons_succ]
      refine wpAnyH_takeW (i := 1) (v := .pointer (some ⟨w.heap.size + 1, 0, none⟩)) rfl (by kernel_rfl) (by kernel_rfl) (by kernel_rfl) (fun _ _ _ h => h) (by rfl) (fun W hC => by (subst hC; go_simp)) hHeld ?_
      simp only [Act.put, List.setIfInBounds_toArray, List.set_cons_zero, List.set_cons_succ]
      refine wpAnyH_takeW (i := 2) (v := .int .i64 x0) rfl (by kernel_rfl) (by kernel_rfl) (by kernel_rfl) (fun _ _ _ h => h) (by rfl) (fun W hC => by (subst hC; go_simp)) hHeld ?_
      simp only [Act.put, List.setIfInBounds_toArray, List.set_cons_zero, List.set_cons_succ]
      refine wpAnyH_takeW (i := 4) (v := .pointer (some ⟨R, 0, none⟩)) rfl (by kernel_rfl) (by kernel_rfl) (by kernel_rfl) (fun _ _ _ h => h) (by rfl) (fun W hC => by (subst hC; go_simp)) hHeld ?_
      simp only [Act.put, List.setIfInBounds_toArray, List.set_cons_zero, List.set_cons_succ]
      refine wpAnyH_takeW (i := 5) (v := .pointer (some ⟨w.heap.size + 1, 1, none⟩)) rfl (by kernel_rfl) (by kernel_rfl) (by kernel_rfl) (fun _ _ _ h => h) (by rfl) (fun W hC => by (subst hC; go_simp)) hHeld ?_
      simp only [Act.put, List.setIfInBounds_toArray, List.set_cons_zero, List.set_cons_succ]
      refine wpAnyH_takeW (i := 6) (v := .int .i64 x1) rfl (by kernel_rfl) (by kernel_rfl) (by kernel_rfl) (fun _ _ _ h => h) (by rfl) (fun W hC => by (subst hC; go_simp)) hHeld ?_
      simp only [Act.put, List.setIfInBounds_toArray, List.set_cons_zero, List.set_cons_succ]
      refine wpAnyH_ready (rs := [3]) (by kernel_rfl) (by simp) ?_
      refine AllReadyH.consW rfl (fun K hK => ?_) AllReadyH.nil
      go_simp
      refine HL0.out.mono ?_
      rintro e w2 ⟨rfl, rfl⟩
      refine hK.out _ _ rfl (fun hHeld => ?_)
      clear hK K
      refine wpAnyH_ready (rs := [7]) (by kernel_rfl) (by simp) ?_
      refine AllReadyH.consW rfl (fun K hK => ?_) AllReadyH.nil
      go_simp
      refine HL1.out.mono ?_
      rintro e w2 ⟨rfl, rfl⟩
      exact ⟨rfl, HG.out, .inr (.inr ⟨HW.out, rfl⟩)⟩
  · have HL0 := hid (plook_no R b B nB aL nL cL n cs x0 W0.drew hRd hMd hx.1 t0)
    have HW : Hid ((wrk p 7 ib x0 x1 x2 n cs).1 = 10) := by unfold Hid wrk; simp [t0]
    clear hRd hMd hbd hR hM hp hx t0
    go_enter Tryz.func79, Tryz.ntmps79
    go_wp2_with fail
    rw [← hW0]
    clear hW0
    refine wp_region_held_drew (S := (fun W => W = W0.drew)) (by kernel_rfl) rfl (fun hHeld => ?_)
    refine wpAnyH_takeW (i := 0) (v := .pointer (some ⟨R, 0, none⟩)) rfl (by kernel_rfl) (by kernel_rfl) (by kernel_rfl) (fun _ _ _ h => h) (by rfl) (fun W hC => by (subst hC; go_simp)) hHeld ?_
    simp only [Act.put, List.setIfInBounds_toArray, List.set_cons_zero, List.set_cons_succ]
    refine wpAnyH_takeW (i := 1) (v := .pointer (some ⟨w.heap.size + 1, 0, none⟩)) rfl (by kernel_rfl) (by kernel_rfl) (by kernel_rfl) (fun _ _ _ h => h) (by rfl) (fun W hC => by (subst hC; go_simp)) hHeld ?_
    simp only [Act.put, List.setIfInBounds_toArray, List.set_cons_zero, List.set_cons_succ]
    refine wpAnyH_takeW (i := 2) (v := .int .i64 x0) rfl (by kernel_rfl) (by kernel_rfl) (by kernel_rfl) (fun _ _ _ h => h) (by rfl) (fun W hC => by (subst hC; go_simp)) hHeld ?_
    simp only [Act.put, List.setIfInBounds_toArray, List.set_cons_zero, List.set_cons_succ]
    refine wpAnyH_takeW (i := 4) (v := .pointer (some ⟨R, 0, none⟩)) rfl (by kernel_rfl) (by kernel_rfl) (by kernel_rfl) (fun _ _ _ h => h) (by rfl) (fun W hC => by (subst hC; go_simp)) hHeld ?_
    simp only [Act.put, List.setIfInBounds_toArray, List.set_cons_zero, List.set_cons_succ]
    refine wpAnyH_takeW (i := 5) (v := .pointer (some ⟨w.heap.size + 1, 1, none⟩)) rfl (by kernel_rfl) (by kernel_rfl) (by kernel_rfl) (fun _ _ _ h => h) (by rfl) (fun W hC => by (subst hC; go_simp)) hHeld ?_
    simp only [Act.put, List.setIfInBounds_toArray, List.set_cons_zero, List.set_cons_succ]
    refine wpAnyH_takeW (i := 6) (v := .int .i64 x1) rfl (by kernel_rfl) (by kernel_rfl) (by kernel_rfl) (fun _ _ _ h => h) (by rfl) (fun W hC => by (subst hC; go_simp)) hHeld ?_
    simp only [Act.put, List.setIfInBounds_toArray, List.set_cons_zero, List.set_cons_succ]
    refine wpAnyH_ready (rs := [3]) (by kernel_rfl) (by simp) ?_
    refine AllReadyH.consW rfl (fun K hK => ?_) AllReadyH.nil
    go_simp
    refine HL0.out.mono ?_
    rintro e w2 ⟨rfl, rfl⟩
    exact ⟨rfl, HG.out, .inr (.inr ⟨HW.out, rfl⟩)⟩

end Go.Proofs.YtdpdmgmeieijaaaGreatDoor
