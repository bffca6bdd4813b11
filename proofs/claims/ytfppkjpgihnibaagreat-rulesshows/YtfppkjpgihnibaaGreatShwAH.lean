/- Package machine: work, same, must. Package machine: work, set, take, pass. Package machine: work, zero, halt, back, jump, others. -/
import Derived.Test.YtfppkjpgihnibaaGreatShwAG
import Derived.Test.YtfppkjpgihnibaaGreatSpgs
namespace Go.Proofs.YtfppkjpgihnibaaGreat
open Go.RowKit Go.Maps

set_option maxRecDepth 100000 in
set_option maxHeartbeats 1000000 in
theorem pwork_6 (p R b B nB : Nat) (aL : Option Addr) (nL cL : Nat) (ia ib ic x0 x1 x2 : Int) (n : Rg) (cs : List (Int × Int)) (w : World) (h3 : 3 ≤ p) (h4 : p ≤ 2147483647) (hR : RnAt w R b B aL nL cL n) (hM : MapAt w B nB cs) (hp : w.cell? ⟨b, 0, none⟩ = some (.int .i64 p)) (hnB : nB + 2 < maxLen) (hx : I64 x0 ∧ I64 x1 ∧ I64 x2) :
    Calls Tryz.prog 73 #[.pointer (some ⟨R, 0, none⟩), .agg #[.int .i64 6, .int .i64 ia, .int .i64 ib, .int .i64 ic], .agg #[.int .i64 x0, .int .i64 x1, .int .i64 x2]] w (WpR B (nB + 2) (wrk p 6 ib x0 x1 x2 n cs) w) := by
  have hmx : Tryz.prog.follows .mixedOrders = true := by kernel_rfl
  have HP := hid (woP_of p R b B nB aL nL cL 6 ia ib ic x0 x1 x2 n cs w hR hM hp)
  obtain ⟨W0, hW0⟩ : ∃ W0, W0 = (w.alloc (.cells #[.int .i64 6, .int .i64 ia, .int .i64 ib, .int .i64 ic] 44)).alloc (.cells #[.int .i64 x0, .int .i64 x1, .int .i64 x2] 56) := ⟨_, rfl⟩
  rw [← hW0] at HP
  have hpc := HP.out.hp
  have hbd : Below w.heap.size w W0.drew := HP.out.bel.drew
  have hRd : RnAt W0.drew R b B aL nL cL n := HP.out.rn
  have hMd : MapAt W0.drew B nB cs := HP.out.mp
  have c0 : W0.cell? ⟨R, 0, none⟩ = some (.pointer (some ⟨b, 0, none⟩)) := HP.out.rn.cell (i := 0) (by decide)
  have c3 : W0.cell? ⟨R, 3, none⟩ = some (.int .i64 n.pc) := HP.out.rn.cell (i := 3) (by decide)
  have c4 : W0.cell? ⟨R, 4, none⟩ = some (.int .i64 n.fp) := HP.out.rn.cell (i := 4) (by decide)
  have c6 : W0.cell? ⟨R, 6, none⟩ = some (.int .i64 n.rv) := HP.out.rn.cell (i := 6) (by decide)
  have j2 : W0.cell? ⟨w.heap.size, 2, none⟩ = some (.int .i64 ib) := by simp [World.cell?, HP.out.i]
  have a0 : W0.cell? ⟨w.heap.size + 1, 0, none⟩ = some (.int .i64 x0) := by simp [World.cell?, HP.out.r]
  have a1 : W0.cell? ⟨w.heap.size + 1, 1, none⟩ = some (.int .i64 x1) := by simp [World.cell?, HP.out.r]
  have a2 : W0.cell? ⟨w.heap.size + 1, 2, none⟩ = some (.int .i64 x2) := by simp [World.cell?, HP.out.r]
  have HG : Hid (w.grownBy W0.drew (some B)) := grB hbd
  have HBD := hid hbd
  have HNB := hid hnB

  by_cases t0 : 0 ≤ finz cs x0
  · by_cases t1 : 0 ≤ finz cs x1
    · have HL0 := hid (plook_yes R b B nB aL nL cL n cs x0 W0.drew hRd hMd hx.1 t0)
      have HL1 := hid (plook_yes R b B nB aL nL cL n cs x1 W0.drew hRd hMd hx.2.1 t1)
      have HOP : Hid (Calls Tryz.prog 107 #[.bool (cvl cs x0 == cvl cs x1)] W0.drew fun e w' => e = .returned (.int .i64 (rkn p 6 (cvl cs x0) (cvl cs x1))) ∧ w' = W0.drew) := by
        refine (pone_any _ W0.drew).mono ?_
        rintro e w' ⟨rfl, rfl⟩
        exact ⟨by simp [rkn], rfl⟩
      have HT := hid (ptell_any R b B nB aL nL cL n cs x2 (rkn p 6 (cvl cs x0) (cvl cs x1)) W0.drew hRd hMd (by omega) hx.2.2 (rkn_fit h3 h4 _ _ _))
      have HW : Hid (wrk p 6 ib x0 x1 x2 n cs = tel cs x2 (rkn p 6 (cvl cs x0) (cvl cs x1))) := by unfold Hid wrk; simp [t0, t1]
      generalize rkn p 6 (cvl cs x0) (cvl cs x1) = z at *
      generalize cvl cs x0 = v0 at *
      generalize cvl cs x1 = v1 at *
      clear hRd hMd hbd hR hM hp hx t0 t1 h3 h4
      go_enter Tryz.func73, Tryz.ntmps73
      go_wp2_with fail
      rw [← hW0]
      clear hW0
      refine wp_region_still_tail 13 hmx (by kernel_rfl) ?_
      simp only [List.take_succ_cons, List.take_zero, List.drop_succ_cons, List.drop_zero]
      repeat still_step
      still_call HL0.out
      repeat still_step
      still_call HL1.out
      repeat still_step
      still_call HOP.out
      repeat still_step
      refine wpStill_nil ?_
      go_wp2_with fail
      refine HT.out.mono ?_
      rintro e w2 ⟨hg2, ⟨h0, rfl, hm2⟩ | ⟨h7, rfl⟩ | ⟨h10, rfl⟩⟩
      · have HE : Hid (WpR B (nB + 2) (wrk p 6 ib x0 x1 x2 n cs) w (.returned (.tuple #[])) w2) := by
          rw [HW.out]
          exact ⟨grW HBD.out hg2, .inl ⟨h0, rfl, hm2.mono (by omega)⟩⟩
        clear hg2 h0 hm2 HT
        go_wp2_with fail
        go_end0
        exact HE.out
      · exact ⟨rfl, by rw [HW.out]; exact ⟨grW HBD.out hg2, .inr (.inl ⟨h7, rfl⟩)⟩⟩
      · exact ⟨rfl, by rw [HW.out]; exact ⟨grW HBD.out hg2, .inr (.inr ⟨h10, rfl⟩)⟩⟩
    · have HL0 := hid (plook_yes R b B nB aL nL cL n cs x0 W0.drew hRd hMd hx.1 t0)
      have HL1 := hid (plook_no R b B nB aL nL cL n cs x1 W0.drew hRd hMd hx.2.1 t1)
      have HW : Hid ((wrk p 6 ib x0 x1 x2 n cs).1 = 10) := by unfold Hid wrk; simp [t0, t1]
      clear hRd hMd hbd hR hM hp hx t0 t1 h3 h4
      go_enter Tryz.func73, Tryz.ntmps73
      go_wp2_with fail
      rw [← hW0]
      clear hW0
      refine wp_region_held_drew (S := (fun W => W = W0.drew)) (by kernel_rfl) rfl (fun hHeld => ?_)
      refine wpAnyH_takeW (i := 0) (v := .pointer (some ⟨R, 0, none⟩)) rfl (by kernel_rfl) (by kernel_rfl) (by kernel_rfl) (fun _ _ _ h => h) (by rfl) (fun W hC => by (subst hC; go_simp)) hHeld ?_
      simp only [Act.put, List.setIfInBounds_toArray, List.set_cons_zero, List.set_cons_succ]
      refine wpAnyH_takeW (i := 1) (v := .pointer (some ⟨w.heap.size + 1, 2, none⟩)) rfl (by kernel_rfl) (by kernel_rfl) (by kernel_rfl) (fun _ _ _ h => h) (by rfl) (fun W hC => by (subst hC; go_simp)) hHeld ?_
      simp only [Act.put, List.setIfInBounds_toArray, List.set_cons_zero, List.set_cons_succ]
      refine wpAnyH_takeW (i := 2) (v := .int .i64 x2) rfl (by kernel_rfl) (by kernel_rfl) (by kernel_rfl) (fun _ _ _ h => h) (by rfl) (fun W hC => by (subst hC; go_simp)) hHeld ?_
      simp only [Act.put, List.setIfInBounds_toArray, List.set_cons_zero, List.set_cons_succ]
      refine wpAnyH_takeW (i := 3) (v := .pointer (some ⟨R, 0, none⟩)) rfl (by kernel_rfl) (by kernel_rfl) (by kernel_rfl) (fun _ _ _ h => h) (by rfl) (fun W hC => by (subst hC; go_simp)) hHeld ?_
      simp only [Act.put, List.setIfInBounds_toArray, List.set_cons_zero, List.set_cons_succ]
      refine wpAnyH_takeW (i := 4) (v := .pointer (some ⟨w.heap.size + 1, 0, none⟩)) rfl (by kernel_rfl) (by kernel_rfl) (by kernel_rfl) (fun _ _ _ h => h) (by rfl) (fun W hC => by (subst hC; go_simp)) hHeld ?_
      simp only [Act.put, List.setIfInBounds_toArray, List.set_cons_zero, List.set_cons_succ]
      refine wpAnyH_takeW (i := 5) (v := .int .i64 x0) rfl (by kernel_rfl) (by kernel_rfl) (by kernel_rfl) (fun _ _ _ h => h) (by rfl) (fun W hC => by (subst hC; go_simp)) hHeld ?_
      simp only [Act.put, List.setIfInBounds_toArray, List.set_cons_zero, List.set_cons_succ]
      refine wpAnyH_takeW (i := 7) (v := .pointer (some ⟨R, 0, none⟩)) rfl (by kernel_rfl) (by kernel_rfl) (by kernel_rfl) (fun _ _ _ h => h) (by rfl) (fun W hC => by (subst hC; go_simp)) hHeld ?_
      simp only [Act.put, List.setIfInBounds_toArray, List.set_cons_zero, List.set_cons_succ]
      refine wpAnyH_takeW (i := 8) (v := .pointer (some ⟨w.heap.size + 1, 1, none⟩)) rfl (by kernel_rfl) (by kernel_rfl) (by kernel_rfl) (fun _ _ _ h => h) (by rfl) (fun W hC => by (subst hC; go_simp)) hHeld ?_
      simp only [Act.put, List.setIfInBounds_toArray, List.set_cons_zero, List.set_cons_succ]
      refine wpAnyH_takeW (i := 9) (v := .int .i64 x1) rfl (by kernel_rfl) (by kernel_rfl) (by kernel_rfl) (fun _ _ _ h => h) (by rfl) (fun W hC => by (subst hC; go_simp)) hHeld ?_
      simp only [Act.put, List.setIfInBounds_toArray, List.set_cons_zero, List.set_cons_succ]
      refine wpAnyH_ready (rs := [6]) (by kernel_rfl) (by simp) ?_
      refine AllReadyH.consW rfl (fun K hK => ?_) AllReadyH.nil
      go_simp
      refine HL0.out.mono ?_
      rintro e w2 ⟨rfl, rfl⟩
      refine hK.out _ _ rfl (fun hHeld => ?_)
      clear hK K
      refine wpAnyH_ready (rs := [10]) (by kernel_rfl) (by simp) ?_
      refine AllReadyH.consW rfl (fun K hK => ?_) AllReadyH.nil
      go_simp
      refine HL1.out.mono ?_
      rintro e w2 ⟨rfl, rfl⟩
      exact ⟨rfl, HG.out, .inr (.inr ⟨HW.out, rfl⟩)⟩
  · have HL0 := hid (plook_no R b B nB aL nL cL n cs x0 W0.drew hRd hMd hx.1 t0)
    have HW : Hid ((wrk p 6 ib x0 x1 x2 n cs).1 = 10) := by unfold Hid wrk; simp [t0]
    clear hRd hMd hbd hR hM hp hx t0 h3 h4
    go_enter Tryz.func73, Tryz.ntmps73
    go_wp2_with fail
    rw [← hW0]
    clear hW0
    refine wp_region_held_drew (S := (fun W => W = W0.drew)) (by kernel_rfl) rfl (fun hHeld => ?_)
    refine wpAnyH_takeW (i := 0) (v := .pointer (some ⟨R, 0, none⟩)) rfl (by kernel_rfl) (by kernel_rfl) (by kernel_rfl) (fun _ _ _ h => h) (by rfl) (fun W hC => by (subst hC; go_simp)) hHeld ?_
    simp only [Act.put, List.setIfInBounds_toArray, List.set_cons_zero, List.set_cons_succ]
    refine wpAnyH_takeW (i := 1) (v := .pointer (some ⟨w.heap.size + 1, 2, none⟩)) rfl (by kernel_rfl) (by kernel_rfl) (by kernel_rfl) (fun _ _ _ h => h) (by rfl) (fun W hC => by (subst hC; go_simp)) hHeld ?_
    simp only [Act.put, List.setIfInBounds_toArray, List.set_cons_zero, List.set_cons_succ]
    refine wpAnyH_takeW (i := 2) (v := .int .i64 x2) rfl (by kernel_rfl) (by kernel_rfl) (by kernel_rfl) (fun _ _ _ h => h) (by rfl) (fun W hC => by (subst hC; go_simp)) hHeld ?_
    simp only [Act.put, List.setIfInBounds_toArray, List.set_cons_zero, List.set_cons_succ]
    refine wpAnyH_takeW (i := 3) (v := .pointer (some ⟨R, 0, none⟩)) rfl (by kernel_rfl) (by kernel_rfl) (by kernel_rfl) (fun _ _ _ h => h) (by rfl) (fun W hC => by (subst hC; go_simp)) hHeld ?_
    simp only [Act.put, List.setIfInBounds_toArray, List.set_cons_zero, List.set_cons_succ]
    refine wpAnyH_takeW (i := 4) (v := .pointer (some ⟨w.heap.size + 1, 0, none⟩)) rfl (by kernel_rfl) (by kernel_rfl) (by kernel_rfl) (fun _ _ _ h => h) (by rfl) (fun W hC => by (subst hC; go_simp)) hHeld ?_
    simp only [Act.put, List.setIfInBounds_toArray, List.set_cons_zero, List.set_cons_succ]
    refine wpAnyH_takeW (i := 5) (v := .int .i64 x0) rfl (by kernel_rfl) (by kernel_rfl) (by kernel_rfl) (fun _ _ _ h => h) (by rfl) (fun W hC => by (subst hC; go_simp)) hHeld ?_
    simp only [Act.put, List.setIfInBounds_toArray, List.set_cons_zero, List.set_cons_succ]
    refine wpAnyH_takeW (i := 7) (v := .pointer (some ⟨R, 0, none⟩)) rfl (by kernel_rfl) (by kernel_rfl) (by kernel_rfl) (fun _ _ _ h => h) (by rfl) (fun W hC => by (subst hC; go_simp)) hHeld ?_
    simp only [Act.put, List.setIfInBounds_toArray, List.set_cons_zero, List.set_cons_succ]
    refine wpAnyH_takeW (i := 8) (v := .pointer (some ⟨w.heap.size + 1, 1, none⟩)) rfl (by kernel_rfl) (by kernel_rfl) (by kernel_rfl) (fun _ _ _ h => h) (by rfl) (fun W hC => by (subst hC; go_simp)) hHeld ?_
    simp only [Act.put, List.setIfInBounds_toArray, List.set_cons_zero, List.set_cons_succ]
    refine wpAnyH_takeW (i := 9) (v := .int .i64 x1) rfl (by kernel_rfl) (by kernel_rfl) (by kernel_rfl) (fun _ _ _ h => h) (by rfl) (fun W hC => by (subst hC; go_simp)) hHeld ?_
    simp only [Act.put, List.setIfInBounds_toArray, List.set_cons_zero, List.set_cons_succ]
    refine wpAnyH_ready (rs := [6]) (by kernel_rfl) (by simp) ?_
    refine AllReadyH.consW rfl (fun K hK => ?_) AllReadyH.nil
    go_simp
    refine HL0.out.mono ?_
    rintro e w2 ⟨rfl, rfl⟩
    exact ⟨rfl, HG.out, .inr (.inr ⟨HW.out, rfl⟩)⟩

set_option maxRecDepth 100000 in
set_option maxHeartbeats 1000000 in
theorem pwork_7 (p R b B nB : Nat) (aL : Option Addr) (nL cL : Nat) (ia ib ic x0 x1 x2 : Int) (n : Rg) (cs : List (Int × Int)) (w : World) (hR : RnAt w R b B aL nL cL n) (hM : MapAt w B nB cs) (hp : w.cell? ⟨b, 0, none⟩ = some (.int .i64 p)) (hnB : nB + 2 < maxLen) (hx : I64 x0 ∧ I64 x1 ∧ I64 x2) :
    Calls Tryz.prog 73 #[.pointer (some ⟨R, 0, none⟩), .agg #[.int .i64 7, .int .i64 ia, .int .i64 ib, .int .i64 ic], .agg #[.int .i64 x0, .int .i64 x1, .int .i64 x2]] w (WpR B (nB + 2) (wrk p 7 ib x0 x1 x2 n cs) w) := by
  have hmx : Tryz.prog.follows .mixedOrders = true := by kernel_rfl
  have HP := hid (woP_of p R b B nB aL nL cL 7 ia ib ic x0 x1 x2 n cs w hR hM hp)
  obtain ⟨W0, hW0⟩ : ∃ W0, W0 = (w.alloc (.cells #[.int .i64 7, .int .i64 ia, .int .i64 ib, .int .i64 ic] 44)).alloc (.cells #[.int .i64 x0, .int .i64 x1, .int .i64 x2] 56) := ⟨_, rfl⟩
  rw [← hW0] at HP
  have hpc := HP.out.hp
  have hbd : Below w.heap.size w W0.drew := HP.out.bel.drew
  have hRd : RnAt W0.drew R b B aL nL cL n := HP.out.rn
  have hMd : MapAt W0.drew B nB cs := HP.out.mp
  have c0 : W0.cell? ⟨R, 0, none⟩ = some (.pointer (some ⟨b, 0, none⟩)) := HP.out.rn.cell (i := 0) (by decide)
  have c3 : W0.cell? ⟨R, 3, none⟩ = some (.int .i64 n.pc) := HP.out.rn.cell (i := 3) (by decide)
  have c4 : W0.cell? ⟨R, 4, none⟩ = some (.int .i64 n.fp) := HP.out.rn.cell (i := 4) (by decide)
  have c6 : W0.cell? ⟨R, 6, none⟩ = some (.int .i64 n.rv) := HP.out.rn.cell (i := 6) (by decide)
  have j2 : W0.cell? ⟨w.heap.size, 2, none⟩ = some (.int .i64 ib) := by simp [World.cell?, HP.out.i]
  have a0 : W0.cell? ⟨w.heap.size + 1, 0, none⟩ = some (.int .i64 x0) := by simp [World.cell?, HP.out.r]
  have a1 : W0.cell? ⟨w.heap.size + 1, 1, none⟩ = some (.int .i64 x1) := by simp [World.cell?, HP.out.r]
  have a2 : W0.cell? ⟨w.heap.size + 1, 2, none⟩ = some (.int .i64 x2) := by simp [World.cell?, HP.out.r]
  have HG : Hid (w.grownBy W0.drew (some B)) := grB hbd
  have HBD := hid hbd
  have HNB := hid hnB

  by_cases t0 : 0 ≤ finz cs x0
  · by_cases t1 : 0 ≤ finz cs x1
    · by_cases tv : cvl cs x0 = cvl cs x1
      · have HL0 := hid (plook_yes R b B nB aL nL cL n cs x0 W0.drew hRd hMd hx.1 t0)
        have HL1 := hid (plook_yes R b B nB aL nL cL n cs x1 W0.drew hRd hMd hx.2.1 t1)
        have hq : (cvl cs x0 == cvl cs x1) = true := by simp [tv]
        have HT := hid (pmust_yes W0.drew)
        have HE : Hid (WpR B (nB + 2) (wrk p 7 ib x0 x1 x2 n cs) w (.returned (.tuple #[])) W0.drew) := by
          have : wrk p 7 ib x0 x1 x2 n cs = (0, cs) := by unfold wrk; simp [t0, t1, tv]
          rw [Hid, this]
          exact ⟨HG.out, .inl ⟨rfl, rfl, hMd.mono (by omega)⟩⟩
        clear tv
        generalize cvl cs x0 = v0 at *
        generalize cvl cs x1 = v1 at *
        clear hRd hMd hbd hR hM hp hx t0 t1
        go_enter Tryz.func73, Tryz.ntmps73
        go_wp2_with fail
        rw [← hW0]
        clear hW0
        refine wp_region_still_tail 9 hmx (by kernel_rfl) ?_
        simp only [List.take_succ_cons, List.take_zero, List.drop_succ_cons, List.drop_zero]
        repeat still_step
        still_call HL0.out
        repeat still_step
        still_call HL1.out
        repeat still_step
        refine wpStill_nil ?_
        go_wp2_with fail
        refine HT.out.mono ?_
        rintro e w2 ⟨rfl, rfl⟩
        go_wp2_with fail
        go_end0
        exact HE.out
      · have HL0 := hid (plook_yes R b B nB aL nL cL n cs x0 W0.drew hRd hMd hx.1 t0)
        have HL1 := hid (plook_yes R b B nB aL nL cL n cs x1 W0.drew hRd hMd hx.2.1 t1)
        have hq : (cvl cs x0 == cvl cs x1) = false := by simp [tv]
        have HT := hid (pmust_no W0.drew)
        have HE : Hid (WpR B (nB + 2) (wrk p 7 ib x0 x1 x2 n cs) w (pnc 87) W0.drew) := by
          have : wrk p 7 ib x0 x1 x2 n cs = (7, cs) := by unfold wrk; simp [t0, t1, tv]
          rw [Hid, this]
          exact ⟨HG.out, .inr (.inl ⟨rfl, rfl⟩)⟩
        clear tv
        generalize cvl cs x0 = v0 at *
        generalize cvl cs x1 = v1 at *
        clear hRd hMd hbd hR hM hp hx t0 t1
        go_enter Tryz.func73, Tryz.ntmps73
        go_wp2_with fail
        rw [← hW0]
        clear hW0
        refine wp_region_still_tail 9 hmx (by kernel_rfl) ?_
        simp only [List.take_succ_cons, List.take_zero, List.drop_succ_cons, List.drop_zero]
        repeat still_step
        still_call HL0.out
        repeat still_step
        still_call HL1.out
        repeat still_step
        refine wpStill_nil ?_
        go_wp2_with fail
        refine HT.out.mono ?_
        rintro e w2 ⟨rfl, rfl⟩
        exact ⟨rfl, HE.out⟩
    · have HL0 := hid (plook_yes R b B nB aL nL cL n cs x0 W0.drew hRd hMd hx.1 t0)
      have HL1 := hid (plook_no R b B nB aL nL cL n cs x1 W0.drew hRd hMd hx.2.1 t1)
      have HW : Hid ((wrk p 7 ib x0 x1 x2 n cs).1 = 10) := by unfold Hid wrk; simp [t0, t1]
      clear hRd hMd hbd hR hM hp hx t0 t1
      go_enter Tryz.func73, Tryz.ntmps73
      go_wp2_with fail
      rw [← hW0]
      clear hW0
      refine wp_region_held_drew (S := (fun W => W = W0.drew)) (by kernel_rfl) rfl (fun hHeld => ?_)
      refine wpAnyH_takeW (i := 0) (v := .pointer (some ⟨R, 0, none⟩)) rfl (by kernel_rfl) (by kernel_rfl) (by kernel_rfl) (fun _ _ _ h => h) (by rfl) (fun W hC => by (subst hC; go_simp)) hHeld ?_
      simp only [Act.put, List.setIfInBounds_toArray, List.set_cons_zero, List.set_cons_succ]
      refine wpAnyH_takeW (i := 1) (v := .pointer (some ⟨w.heap.size + 1, 0, none⟩)) rfl (by kernel_rfl) (by kernel_rfl) (by kernel_rfl) (fun _ _ _ h => h) (by rfl) (fun W hC => by (subst hC; go_simp)) hHeld ?_
      simp only [Act.put, List.setIfInBounds_toArray, List.set_cons_zero, List.set_cons_succ]
      refine wpAnyH_takeW (i := 2) (v := .int .i64 x0) rfl (by kernel_rfl) (by kernel_rfl) (by kernel_rfl) (fun _ _ _ h => h) (by rfl) (fun W hC => by (subst hC; go_simp)) hHeld ?_
      simp only [Act.put, List.setIfInBounds_toArray, List.set_cons_zero, List.set_cons_succ]
      refine wpAnyH_takeW (i := 4) (v := .pointer (some ⟨R, 0, none⟩)) rfl (by kernel_rfl) (by kernel_rfl) (by kernel_rfl) (fun _ _ _ h => h) (by rfl) (fun W hC => by (subst hC; go_simp)) hHeld ?_
      simp only [Act.put, List.setIfInBounds_toArray, List.set_cons_zero, List.set_cons_succ]
      refine wpAnyH_takeW (i := 5) (v := .pointer (some ⟨w.heap.size + 1, 1, none⟩)) rfl (by kernel_rfl) (by kernel_rfl) (by kernel_rfl) (fun _ _ _ h => h) (by rfl) (fun W hC => by (subst hC; go_simp)) hHeld ?_
      simp only [Act.put, List.setIfInBounds_toArray, List.set_cons_zero, List.set_cons_succ]
      refine wpAnyH_takeW (i := 6) (v := .int .i64 x1) rfl (by kernel_rfl) (by kernel_rfl) (by kernel_rfl) (fun _ _ _ h => h) (by rfl) (fun W hC => by (subst hC; go_simp)) hHeld ?_
      simp only [Act.put, List.setIfInBounds_toArray, List.set_cons_zero, List.set_cons_succ]
      refine wpAnyH_ready (rs := [3]) (by kernel_rfl) (by simp) ?_
      refine AllReadyH.consW rfl (fun K hK => ?_) AllReadyH.nil
      go_simp
      refine HL0.out.mono ?_
      rintro e w2 ⟨rfl, rfl⟩
      refine hK.out _ _ rfl (fun hHeld => ?_)
      clear hK K
      refine wpAnyH_ready (rs := [7]) (by kernel_rfl) (by simp) ?_
      refine AllReadyH.consW rfl (fun K hK => ?_) AllReadyH.nil
      go_simp
      refine HL1.out.mono ?_
      rintro e w2 ⟨rfl, rfl⟩
      exact ⟨rfl, HG.out, .inr (.inr ⟨HW.out, rfl⟩)⟩
  · have HL0 := hid (plook_no R b B nB aL nL cL n cs x0 W0.drew hRd hMd hx.1 t0)
    have HW : Hid ((wrk p 7 ib x0 x1 x2 n cs).1 = 10) := by unfold Hid wrk; simp [t0]
    clear hRd hMd hbd hR hM hp hx t0
    go_enter Tryz.func73, Tryz.ntmps73
    go_wp2_with fail
    rw [← hW0]
    clear hW0
    refine wp_region_held_drew (S := (fun W => W = W0.drew)) (by kernel_rfl) rfl (fun hHeld => ?_)
    refine wpAnyH_takeW (i := 0) (v := .pointer (some ⟨R, 0, none⟩)) rfl (by kernel_rfl) (by kernel_rfl) (by kernel_rfl) (fun _ _ _ h => h) (by rfl) (fun W hC => by (subst hC; go_simp)) hHeld ?_
    simp only [Act.put, List.setIfInBounds_toArray, List.set_cons_zero, List.set_cons_succ]
    refine wpAnyH_takeW (i := 1) (v := .pointer (some ⟨w.heap.size + 1, 0, none⟩)) rfl (by kernel_rfl) (by kernel_rfl) (by kernel_rfl) (fun _ _ _ h => h) (by rfl) (fun W hC => by (subst hC; go_simp)) hHeld ?_
    simp only [Act.put, List.setIfInBounds_toArray, List.set_cons_zero, List.set_cons_succ]
    refine wpAnyH_takeW (i := 2) (v := .int .i64 x0) rfl (by kernel_rfl) (by kernel_rfl) (by kernel_rfl) (fun _ _ _ h => h) (by rfl) (fun W hC => by (subst hC; go_simp)) hHeld ?_
    simp only [Act.put, List.setIfInBounds_toArray, List.set_cons_zero, List.set_cons_succ]
    refine wpAnyH_takeW (i := 4) (v := .pointer (some ⟨R, 0, none⟩)) rfl (by kernel_rfl) (by kernel_rfl) (by kernel_rfl) (fun _ _ _ h => h) (by rfl) (fun W hC => by (subst hC; go_simp)) hHeld ?_
    simp only [Act.put, List.setIfInBounds_toArray, List.set_cons_zero, List.set_cons_succ]
    refine wpAnyH_takeW (i := 5) (v := .pointer (some ⟨w.heap.size + 1, 1, none⟩)) rfl (by kernel_rfl) (by kernel_rfl) (by kernel_rfl) (fun _ _ _ h => h) (by rfl) (fun W hC => by (subst hC; go_simp)) hHeld ?_
    simp only [Act.put, List.setIfInBounds_toArray, List.set_cons_zero, List.set_cons_succ]
    refine wpAnyH_takeW (i := 6) (v := .int .i64 x1) rfl (by kernel_rfl) (by kernel_rfl) (by kernel_rfl) (fun _ _ _ h => h) (by rfl) (fun W hC => by (subst hC; go_simp)) hHeld ?_
    simp only [Act.put, List.setIfInBounds_toArray, List.set_cons_zero, List.set_cons_succ]
    refine wpAnyH_ready (rs := [3]) (by kernel_rfl) (by simp) ?_
    refine AllReadyH.consW rfl (fun K hK => ?_) AllReadyH.nil
    go_simp
    refine HL0.out.mono ?_
    rintro e w2 ⟨rfl, rfl⟩
    exact ⟨rfl, HG.out, .inr (.inr ⟨HW.out, rfl⟩)⟩

end Go.Proofs.YtfppkjpgihnibaaGreat

namespace Go.Proofs.YtfppkjpgihnibaaGreat
open Go.RowKit Go.Maps

set_option maxRecDepth 100000 in
set_option maxHeartbeats 1000000 in
theorem pwork_5 (p R b B nB : Nat) (aL : Option Addr) (nL cL : Nat) (ia ib ic x0 x1 x2 : Int) (n : Rg) (cs : List (Int × Int)) (w : World) (h3 : 3 ≤ p) (h4 : p ≤ 2147483647) (hR : RnAt w R b B aL nL cL n) (hM : MapAt w B nB cs) (hp : w.cell? ⟨b, 0, none⟩ = some (.int .i64 p)) (hnB : nB + 2 < maxLen) (hx : I64 x0 ∧ I64 x1 ∧ I64 x2) (hib : I64 ib) :
    Calls Tryz.prog 73 #[.pointer (some ⟨R, 0, none⟩), .agg #[.int .i64 5, .int .i64 ia, .int .i64 ib, .int .i64 ic], .agg #[.int .i64 x0, .int .i64 x1, .int .i64 x2]] w (WpR B (nB + 2) (wrk p 5 ib x0 x1 x2 n cs) w) := by
  have hmx : Tryz.prog.follows .mixedOrders = true := by kernel_rfl
  have HP := hid (woP_of p R b B nB aL nL cL 5 ia ib ic x0 x1 x2 n cs w hR hM hp)
  obtain ⟨W0, hW0⟩ : ∃ W0, W0 = (w.alloc (.cells #[.int .i64 5, .int .i64 ia, .int .i64 ib, .int .i64 ic] 44)).alloc (.cells #[.int .i64 x0, .int .i64 x1, .int .i64 x2] 56) := ⟨_, rfl⟩
  rw [← hW0] at HP
  have hpc := HP.out.hp
  have hbd : Below w.heap.size w W0.drew := HP.out.bel.drew
  have hRd : RnAt W0.drew R b B aL nL cL n := HP.out.rn
  have hMd : MapAt W0.drew B nB cs := HP.out.mp
  have c0 : W0.cell? ⟨R, 0, none⟩ = some (.pointer (some ⟨b, 0, none⟩)) := HP.out.rn.cell (i := 0) (by decide)
  have c3 : W0.cell? ⟨R, 3, none⟩ = some (.int .i64 n.pc) := HP.out.rn.cell (i := 3) (by decide)
  have c4 : W0.cell? ⟨R, 4, none⟩ = some (.int .i64 n.fp) := HP.out.rn.cell (i := 4) (by decide)
  have c6 : W0.cell? ⟨R, 6, none⟩ = some (.int .i64 n.rv) := HP.out.rn.cell (i := 6) (by decide)
  have j2 : W0.cell? ⟨w.heap.size, 2, none⟩ = some (.int .i64 ib) := by simp [World.cell?, HP.out.i]
  have a0 : W0.cell? ⟨w.heap.size + 1, 0, none⟩ = some (.int .i64 x0) := by simp [World.cell?, HP.out.r]
  have a1 : W0.cell? ⟨w.heap.size + 1, 1, none⟩ = some (.int .i64 x1) := by simp [World.cell?, HP.out.r]
  have a2 : W0.cell? ⟨w.heap.size + 1, 2, none⟩ = some (.int .i64 x2) := by simp [World.cell?, HP.out.r]
  have HG : Hid (w.grownBy W0.drew (some B)) := grB hbd
  have HBD := hid hbd
  have HNB := hid hnB

  have hzb : I64 (ib % (p : Int)) := by have := emod_bounds ib p h3; exact ⟨by omega, by omega⟩
  have HOP : Hid (Calls Tryz.prog 31 #[.pointer (some ⟨b, 0, none⟩), .int .i64 ib] W0.drew fun e w' => e = .returned (.int .i64 (ib % (p : Int))) ∧ w' = W0.drew) := of_any p b _ W0.drew h3 h4 hpc hib.1 hib.2
  have HT := hid (ptell_any R b B nB aL nL cL n cs x0 (ib % (p : Int)) W0.drew hRd hMd (by omega) hx.1 hzb)
  have HW : Hid (wrk p 5 ib x0 x1 x2 n cs = tel cs x0 (ib % (p : Int))) := by unfold Hid wrk; simp
  generalize ib % (p : Int) = z at *
  clear hRd hMd hbd hR hM hp hx h3 h4 hzb
  go_enter Tryz.func73, Tryz.ntmps73
  go_wp2_with fail
  rw [← hW0]
  clear hW0
  refine wp_region_still_tail 10 hmx (by kernel_rfl) ?_
  simp only [List.take_succ_cons, List.take_zero, List.drop_succ_cons, List.drop_zero]
  repeat still_step
  still_call HOP.out
  repeat still_step
  refine wpStill_nil ?_
  go_wp2_with fail
  refine HT.out.mono ?_
  rintro e w2 ⟨hg2, ⟨h0, rfl, hm2⟩ | ⟨h7, rfl⟩ | ⟨h10, rfl⟩⟩
  · have HE : Hid (WpR B (nB + 2) (wrk p 5 ib x0 x1 x2 n cs) w (.returned (.tuple #[])) w2) := by
      rw [HW.out]
      exact ⟨grW HBD.out hg2, .inl ⟨h0, rfl, hm2.mono (by omega)⟩⟩
    clear hg2 h0 hm2 HT
    go_wp2_with fail
    go_end0
    exact HE.out
  · exact ⟨rfl, by rw [HW.out]; exact ⟨grW HBD.out hg2, .inr (.inl ⟨h7, rfl⟩)⟩⟩
  · exact ⟨rfl, by rw [HW.out]; exact ⟨grW HBD.out hg2, .inr (.inr ⟨h10, rfl⟩)⟩⟩

set_option maxRecDepth 100000 in
set_option maxHeartbeats 1000000 in
theorem pwork_12 (p R b B nB : Nat) (aL : Option Addr) (nL cL : Nat) (ia ib ic x0 x1 x2 : Int) (n : Rg) (cs : List (Int × Int)) (w : World) (hR : RnAt w R b B aL nL cL n) (hM : MapAt w B nB cs) (hp : w.cell? ⟨b, 0, none⟩ = some (.int .i64 p)) (hnB : nB + 2 < maxLen) (hx : I64 x0 ∧ I64 x1 ∧ I64 x2) (hrv : I64 n.rv) :
    Calls Tryz.prog 73 #[.pointer (some ⟨R, 0, none⟩), .agg #[.int .i64 12, .int .i64 ia, .int .i64 ib, .int .i64 ic], .agg #[.int .i64 x0, .int .i64 x1, .int .i64 x2]] w (WpR B (nB + 2) (wrk p 12 ib x0 x1 x2 n cs) w) := by
  have hmx : Tryz.prog.follows .mixedOrders = true := by kernel_rfl
  have HP := hid (woP_of p R b B nB aL nL cL 12 ia ib ic x0 x1 x2 n cs w hR hM hp)
  obtain ⟨W0, hW0⟩ : ∃ W0, W0 = (w.alloc (.cells #[.int .i64 12, .int .i64 ia, .int .i64 ib, .int .i64 ic] 44)).alloc (.cells #[.int .i64 x0, .int .i64 x1, .int .i64 x2] 56) := ⟨_, rfl⟩
  rw [← hW0] at HP
  have hpc := HP.out.hp
  have hbd : Below w.heap.size w W0.drew := HP.out.bel.drew
  have hRd : RnAt W0.drew R b B aL nL cL n := HP.out.rn
  have hMd : MapAt W0.drew B nB cs := HP.out.mp
  have c0 : W0.cell? ⟨R, 0, none⟩ = some (.pointer (some ⟨b, 0, none⟩)) := HP.out.rn.cell (i := 0) (by decide)
  have c3 : W0.cell? ⟨R, 3, none⟩ = some (.int .i64 n.pc) := HP.out.rn.cell (i := 3) (by decide)
  have c4 : W0.cell? ⟨R, 4, none⟩ = some (.int .i64 n.fp) := HP.out.rn.cell (i := 4) (by decide)
  have c6 : W0.cell? ⟨R, 6, none⟩ = some (.int .i64 n.rv) := HP.out.rn.cell (i := 6) (by decide)
  have j2 : W0.cell? ⟨w.heap.size, 2, none⟩ = some (.int .i64 ib) := by simp [World.cell?, HP.out.i]
  have a0 : W0.cell? ⟨w.heap.size + 1, 0, none⟩ = some (.int .i64 x0) := by simp [World.cell?, HP.out.r]
  have a1 : W0.cell? ⟨w.heap.size + 1, 1, none⟩ = some (.int .i64 x1) := by simp [World.cell?, HP.out.r]
  have a2 : W0.cell? ⟨w.heap.size + 1, 2, none⟩ = some (.int .i64 x2) := by simp [World.cell?, HP.out.r]
  have HG : Hid (w.grownBy W0.drew (some B)) := grB hbd
  have HBD := hid hbd
  have HNB := hid hnB

  have HT := hid (ptell_any R b B nB aL nL cL n cs x0 n.rv W0.drew hRd hMd (by omega) hx.1 hrv)
  have HW : Hid (wrk p 12 ib x0 x1 x2 n cs = tel cs x0 n.rv) := by unfold Hid wrk; simp
  clear hRd hMd hbd hR hM hp hx
  go_enter Tryz.func73, Tryz.ntmps73
  go_wp2_with fail
  rw [← hW0]
  clear hW0
  refine wp_region_still_tail 7 hmx (by kernel_rfl) ?_
  simp only [List.take_succ_cons, List.take_zero, List.drop_succ_cons, List.drop_zero]
  repeat still_step
  refine wpStill_nil ?_
  go_wp2_with fail
  refine HT.out.mono ?_
  rintro e w2 ⟨hg2, ⟨h0, rfl, hm2⟩ | ⟨h7, rfl⟩ | ⟨h10, rfl⟩⟩
  · have HE : Hid (WpR B (nB + 2) (wrk p 12 ib x0 x1 x2 n cs) w (.returned (.tuple #[])) w2) := by
      rw [HW.out]
      exact ⟨grW HBD.out hg2, .inl ⟨h0, rfl, hm2.mono (by omega)⟩⟩
    clear hg2 h0 hm2 HT
    go_wp2_with fail
    go_end0
    exact HE.out
  · exact ⟨rfl, by rw [HW.out]; exact ⟨grW HBD.out hg2, .inr (.inl ⟨h7, rfl⟩)⟩⟩
  · exact ⟨rfl, by rw [HW.out]; exact ⟨grW HBD.out hg2, .inr (.inr ⟨h10, rfl⟩)⟩⟩

set_option maxRecDepth 100000 in
set_option maxHeartbeats 1000000 in
theorem pwork_13 (p R b B nB : Nat) (aL : Option Addr) (nL cL : Nat) (ia ib ic x0 x1 x2 : Int) (n : Rg) (cs : List (Int × Int)) (w : World) (hR : RnAt w R b B aL nL cL n) (hM : MapAt w B nB cs) (hp : w.cell? ⟨b, 0, none⟩ = some (.int .i64 p)) (hnB : nB + 2 < maxLen) (hx : I64 x0 ∧ I64 x1 ∧ I64 x2) (hcs : ∀ x, 0 ≤ cvl cs x ∧ cvl cs x < p) (h4 : p ≤ 2147483647) :
    Calls Tryz.prog 73 #[.pointer (some ⟨R, 0, none⟩), .agg #[.int .i64 13, .int .i64 ia, .int .i64 ib, .int .i64 ic], .agg #[.int .i64 x0, .int .i64 x1, .int .i64 x2]] w (WpR B (nB + 2) (wrk p 13 ib x0 x1 x2 n cs) w) := by
  have hmx : Tryz.prog.follows .mixedOrders = true := by kernel_rfl
  have HP := hid (woP_of p R b B nB aL nL cL 13 ia ib ic x0 x1 x2 n cs w hR hM hp)
  obtain ⟨W0, hW0⟩ : ∃ W0, W0 = (w.alloc (.cells #[.int .i64 13, .int .i64 ia, .int .i64 ib, .int .i64 ic] 44)).alloc (.cells #[.int .i64 x0, .int .i64 x1, .int .i64 x2] 56) := ⟨_, rfl⟩
  rw [← hW0] at HP
  have hpc := HP.out.hp
  have hbd : Below w.heap.size w W0.drew := HP.out.bel.drew
  have hRd : RnAt W0.drew R b B aL nL cL n := HP.out.rn
  have hMd : MapAt W0.drew B nB cs := HP.out.mp
  have c0 : W0.cell? ⟨R, 0, none⟩ = some (.pointer (some ⟨b, 0, none⟩)) := HP.out.rn.cell (i := 0) (by decide)
  have c3 : W0.cell? ⟨R, 3, none⟩ = some (.int .i64 n.pc) := HP.out.rn.cell (i := 3) (by decide)
  have c4 : W0.cell? ⟨R, 4, none⟩ = some (.int .i64 n.fp) := HP.out.rn.cell (i := 4) (by decide)
  have c6 : W0.cell? ⟨R, 6, none⟩ = some (.int .i64 n.rv) := HP.out.rn.cell (i := 6) (by decide)
  have j2 : W0.cell? ⟨w.heap.size, 2, none⟩ = some (.int .i64 ib) := by simp [World.cell?, HP.out.i]
  have a0 : W0.cell? ⟨w.heap.size + 1, 0, none⟩ = some (.int .i64 x0) := by simp [World.cell?, HP.out.r]
  have a1 : W0.cell? ⟨w.heap.size + 1, 1, none⟩ = some (.int .i64 x1) := by simp [World.cell?, HP.out.r]
  have a2 : W0.cell? ⟨w.heap.size + 1, 2, none⟩ = some (.int .i64 x2) := by simp [World.cell?, HP.out.r]
  have HG : Hid (w.grownBy W0.drew (some B)) := grB hbd
  have HBD := hid hbd
  have HNB := hid hnB

  by_cases t0 : 0 ≤ finz cs x0
  · have HL0 := hid (plook_yes R b B nB aL nL cL n cs x0 W0.drew hRd hMd hx.1 t0)
    have b0 := hcs x0
    have HT := hid (ptell_any R b B nB aL nL cL n cs x1 (cvl cs x0) W0.drew hRd hMd (by omega) hx.2.1 ⟨by omega, by omega⟩)
    have HW : Hid (wrk p 13 ib x0 x1 x2 n cs = tel cs x1 (cvl cs x0)) := by unfold Hid wrk; simp [t0]
    generalize cvl cs x0 = v0 at *
    clear hRd hMd hbd hR hM hp hx hcs b0 t0 h4
    go_enter Tryz.func73, Tryz.ntmps73
    go_wp2_with fail
    rw [← hW0]
    clear hW0
    refine wp_region_still_tail 7 hmx (by kernel_rfl) ?_
    simp only [List.take_succ_cons, List.take_zero, List.drop_succ_cons, List.drop_zero]
    repeat still_step
    still_call HL0.out
    repeat still_step
    refine wpStill_nil ?_
    go_wp2_with fail
    refine HT.out.mono ?_
    rintro e w2 ⟨hg2, ⟨h0, rfl, hm2⟩ | ⟨h7, rfl⟩ | ⟨h10, rfl⟩⟩
    · have HE : Hid (WpR B (nB + 2) (wrk p 13 ib x0 x1 x2 n cs) w (.returned (.tuple #[])) w2) := by
        rw [HW.out]
        exact ⟨grW HBD.out hg2, .inl ⟨h0, rfl, hm2.mono (by omega)⟩⟩
      clear hg2 h0 hm2 HT
      go_wp2_with fail
      go_end0
      exact HE.out
    · exact ⟨rfl, by rw [HW.out]; exact ⟨grW HBD.out hg2, .inr (.inl ⟨h7, rfl⟩)⟩⟩
    · exact ⟨rfl, by rw [HW.out]; exact ⟨grW HBD.out hg2, .inr (.inr ⟨h10, rfl⟩)⟩⟩
  · have HL0 := hid (plook_no R b B nB aL nL cL n cs x0 W0.drew hRd hMd hx.1 t0)
    have HW : Hid ((wrk p 13 ib x0 x1 x2 n cs).1 = 10) := by unfold Hid wrk; simp [t0]
    clear hRd hMd hbd hR hM hp hx hcs t0 h4
    go_enter Tryz.func73, Tryz.ntmps73
    go_wp2_with fail
    rw [← hW0]
    clear hW0
    refine wp_region_held_drew (S := (fun W => W = W0.drew)) (by kernel_rfl) rfl (fun hHeld => ?_)
    refine wpAnyH_takeW (i := 0) (v := .pointer (some ⟨R, 0, none⟩)) rfl (by kernel_rfl) (by kernel_rfl) (by kernel_rfl) (fun _ _ _ h => h) (by rfl) (fun W hC => by (subst hC; go_simp)) hHeld ?_
    simp only [Act.put, List.setIfInBounds_toArray, List.set_cons_zero, List.set_cons_succ]
    refine wpAnyH_takeW (i := 1) (v := .pointer (some ⟨w.heap.size + 1, 1, none⟩)) rfl (by kernel_rfl) (by kernel_rfl) (by kernel_rfl) (fun _ _ _ h => h) (by rfl) (fun W hC => by (subst hC; go_simp)) hHeld ?_
    simp only [Act.put, List.setIfInBounds_toArray, List.set_cons_zero, List.set_cons_succ]
    refine wpAnyH_takeW (i := 2) (v := .int .i64 x1) rfl (by kernel_rfl) (by kernel_rfl) (by kernel_rfl) (fun _ _ _ h => h) (by rfl) (fun W hC => by (subst hC; go_simp)) hHeld ?_
    simp only [Act.put, List.setIfInBounds_toArray, List.set_cons_zero, List.set_cons_succ]
    refine wpAnyH_takeW (i := 3) (v := .pointer (some ⟨R, 0, none⟩)) rfl (by kernel_rfl) (by kernel_rfl) (by kernel_rfl) (fun _ _ _ h => h) (by rfl) (fun W hC => by (subst hC; go_simp)) hHeld ?_
    simp only [Act.put, List.setIfInBounds_toArray, List.set_cons_zero, List.set_cons_succ]
    refine wpAnyH_takeW (i := 4) (v := .pointer (some ⟨w.heap.size + 1, 0, none⟩)) rfl (by kernel_rfl) (by kernel_rfl) (by kernel_rfl) (fun _ _ _ h => h) (by rfl) (fun W hC => by (subst hC; go_simp)) hHeld ?_
    simp only [Act.put, List.setIfInBounds_toArray, List.set_cons_zero, List.set_cons_succ]
    refine wpAnyH_takeW (i := 5) (v := .int .i64 x0) rfl (by kernel_rfl) (by kernel_rfl) (by kernel_rfl) (fun _ _ _ h => h) (by rfl) (fun W hC => by (subst hC; go_simp)) hHeld ?_
    simp only [Act.put, List.setIfInBounds_toArray, List.set_cons_zero, List.set_cons_succ]
    refine wpAnyH_ready (rs := [6]) (by kernel_rfl) (by simp) ?_
    refine AllReadyH.consW rfl (fun K hK => ?_) AllReadyH.nil
    go_simp
    refine HL0.out.mono ?_
    rintro e w2 ⟨rfl, rfl⟩
    exact ⟨rfl, HG.out, .inr (.inr ⟨HW.out, rfl⟩)⟩

end Go.Proofs.YtfppkjpgihnibaaGreat

namespace Go.Proofs.YtfppkjpgihnibaaGreat
open Go.RowKit Go.Maps

set_option maxRecDepth 100000 in
set_option maxHeartbeats 1000000 in
theorem pwork_9 (p R b B nB : Nat) (aL : Option Addr) (nL cL : Nat) (ia ib ic x0 x1 x2 : Int) (n : Rg) (cs : List (Int × Int)) (w : World) (hR : RnAt w R b B aL nL cL n) (hM : MapAt w B nB cs) (hp : w.cell? ⟨b, 0, none⟩ = some (.int .i64 p)) (hnB : nB + 2 < maxLen) (hx : I64 x0 ∧ I64 x1 ∧ I64 x2) :
    Calls Tryz.prog 73 #[.pointer (some ⟨R, 0, none⟩), .agg #[.int .i64 9, .int .i64 ia, .int .i64 ib, .int .i64 ic], .agg #[.int .i64 x0, .int .i64 x1, .int .i64 x2]] w (WpR B (nB + 2) (wrk p 9 ib x0 x1 x2 n cs) w) := by
  have hmx : Tryz.prog.follows .mixedOrders = true := by kernel_rfl
  have HP := hid (woP_of p R b B nB aL nL cL 9 ia ib ic x0 x1 x2 n cs w hR hM hp)
  obtain ⟨W0, hW0⟩ : ∃ W0, W0 = (w.alloc (.cells #[.int .i64 9, .int .i64 ia, .int .i64 ib, .int .i64 ic] 44)).alloc (.cells #[.int .i64 x0, .int .i64 x1, .int .i64 x2] 56) := ⟨_, rfl⟩
  rw [← hW0] at HP
  have hpc := HP.out.hp
  have hbd : Below w.heap.size w W0.drew := HP.out.bel.drew
  have hRd : RnAt W0.drew R b B aL nL cL n := HP.out.rn
  have hMd : MapAt W0.drew B nB cs := HP.out.mp
  have c0 : W0.cell? ⟨R, 0, none⟩ = some (.pointer (some ⟨b, 0, none⟩)) := HP.out.rn.cell (i := 0) (by decide)
  have c3 : W0.cell? ⟨R, 3, none⟩ = some (.int .i64 n.pc) := HP.out.rn.cell (i := 3) (by decide)
  have c4 : W0.cell? ⟨R, 4, none⟩ = some (.int .i64 n.fp) := HP.out.rn.cell (i := 4) (by decide)
  have c6 : W0.cell? ⟨R, 6, none⟩ = some (.int .i64 n.rv) := HP.out.rn.cell (i := 6) (by decide)
  have j2 : W0.cell? ⟨w.heap.size, 2, none⟩ = some (.int .i64 ib) := by simp [World.cell?, HP.out.i]
  have a0 : W0.cell? ⟨w.heap.size + 1, 0, none⟩ = some (.int .i64 x0) := by simp [World.cell?, HP.out.r]
  have a1 : W0.cell? ⟨w.heap.size + 1, 1, none⟩ = some (.int .i64 x1) := by simp [World.cell?, HP.out.r]
  have a2 : W0.cell? ⟨w.heap.size + 1, 2, none⟩ = some (.int .i64 x2) := by simp [World.cell?, HP.out.r]
  have HG : Hid (w.grownBy W0.drew (some B)) := grB hbd
  have HBD := hid hbd
  have HNB := hid hnB

  by_cases t0 : 0 ≤ finz cs x0
  · have HL0 := hid (plook_yes R b B nB aL nL cL n cs x0 W0 HP.out.rn HP.out.mp hx.1 t0)
    have HE : Hid (WpR B (nB + 2) (wrk p 9 ib x0 x1 x2 n cs) w (.returned (.tuple #[])) W0) := by
      have : wrk p 9 ib x0 x1 x2 n cs = (0, cs) := by unfold wrk; simp [t0]
      rw [Hid, this]
      exact ⟨grB HP.out.bel, .inl ⟨rfl, rfl, HP.out.mp.mono (by omega)⟩⟩
    generalize cvl cs x0 = v0 at *
    clear hRd hMd hbd hR hM hp hx t0
    go_enter Tryz.func73, Tryz.ntmps73
    go_wp2_with fail
    rw [← hW0]
    clear hW0
    refine HL0.out.mono ?_
    rintro e w2 ⟨rfl, rfl⟩
    go_wp2_with fail
    go_end0
    exact HE.out
  · have HL0 := hid (plook_no R b B nB aL nL cL n cs x0 W0 HP.out.rn HP.out.mp hx.1 t0)
    have HW : Hid ((wrk p 9 ib x0 x1 x2 n cs).1 = 10) := by unfold Hid wrk; simp [t0]
    clear hRd hMd hbd hR hM hp hx t0
    go_enter Tryz.func73, Tryz.ntmps73
    go_wp2_with fail
    rw [← hW0]
    clear hW0
    refine HL0.out.mono ?_
    rintro e w2 ⟨rfl, rfl⟩
    exact ⟨rfl, grB HP.out.bel, .inr (.inr ⟨HW.out, rfl⟩)⟩

set_option maxRecDepth 100000 in
set_option maxHeartbeats 1000000 in
theorem pwork_0 (p R b B nB : Nat) (aL : Option Addr) (nL cL : Nat) (ia ib ic x0 x1 x2 : Int) (n : Rg) (cs : List (Int × Int)) (w : World) (hR : RnAt w R b B aL nL cL n) (hM : MapAt w B nB cs) (hp : w.cell? ⟨b, 0, none⟩ = some (.int .i64 p)) (hnB : nB + 2 < maxLen) (hx : I64 x0 ∧ I64 x1 ∧ I64 x2) :
    Calls Tryz.prog 73 #[.pointer (some ⟨R, 0, none⟩), .agg #[.int .i64 0, .int .i64 ia, .int .i64 ib, .int .i64 ic], .agg #[.int .i64 x0, .int .i64 x1, .int .i64 x2]] w (WpR B (nB + 2) (wrk p 0 ib x0 x1 x2 n cs) w) := by
  have hmx : Tryz.prog.follows .mixedOrders = true := by kernel_rfl
  have HP := hid (woP_of p R b B nB aL nL cL 0 ia ib ic x0 x1 x2 n cs w hR hM hp)
  obtain ⟨W0, hW0⟩ : ∃ W0, W0 = (w.alloc (.cells #[.int .i64 0, .int .i64 ia, .int .i64 ib, .int .i64 ic] 44)).alloc (.cells #[.int .i64 x0, .int .i64 x1, .int .i64 x2] 56) := ⟨_, rfl⟩
  rw [← hW0] at HP
  have hpc := HP.out.hp
  have hbd : Below w.heap.size w W0.drew := HP.out.bel.drew
  have hRd : RnAt W0.drew R b B aL nL cL n := HP.out.rn
  have hMd : MapAt W0.drew B nB cs := HP.out.mp
  have c0 : W0.cell? ⟨R, 0, none⟩ = some (.pointer (some ⟨b, 0, none⟩)) := HP.out.rn.cell (i := 0) (by decide)
  have c3 : W0.cell? ⟨R, 3, none⟩ = some (.int .i64 n.pc) := HP.out.rn.cell (i := 3) (by decide)
  have c4 : W0.cell? ⟨R, 4, none⟩ = some (.int .i64 n.fp) := HP.out.rn.cell (i := 4) (by decide)
  have c6 : W0.cell? ⟨R, 6, none⟩ = some (.int .i64 n.rv) := HP.out.rn.cell (i := 6) (by decide)
  have j2 : W0.cell? ⟨w.heap.size, 2, none⟩ = some (.int .i64 ib) := by simp [World.cell?, HP.out.i]
  have a0 : W0.cell? ⟨w.heap.size + 1, 0, none⟩ = some (.int .i64 x0) := by simp [World.cell?, HP.out.r]
  have a1 : W0.cell? ⟨w.heap.size + 1, 1, none⟩ = some (.int .i64 x1) := by simp [World.cell?, HP.out.r]
  have a2 : W0.cell? ⟨w.heap.size + 1, 2, none⟩ = some (.int .i64 x2) := by simp [World.cell?, HP.out.r]
  have HG : Hid (w.grownBy W0.drew (some B)) := grB hbd
  have HBD := hid hbd
  have HNB := hid hnB

  by_cases t0 : 0 ≤ finz cs x0
  · have HL0 := hid (plook_yes R b B nB aL nL cL n cs x0 W0 HP.out.rn HP.out.mp hx.1 t0)
    have HE : Hid (WpR B (nB + 2) (wrk p 0 ib x0 x1 x2 n cs) w (.returned (.tuple #[])) W0) := by
      have : wrk p 0 ib x0 x1 x2 n cs = (0, cs) := by unfold wrk; simp [t0]
      rw [Hid, this]
      exact ⟨grB HP.out.bel, .inl ⟨rfl, rfl, HP.out.mp.mono (by omega)⟩⟩
    generalize cvl cs x0 = v0 at *
    clear hRd hMd hbd hR hM hp hx t0
    go_enter Tryz.func73, Tryz.ntmps73
    go_wp2_with fail
    rw [← hW0]
    clear hW0
    refine HL0.out.mono ?_
    rintro e w2 ⟨rfl, rfl⟩
    go_wp2_with fail
    go_end0
    exact HE.out
  · have HL0 := hid (plook_no R b B nB aL nL cL n cs x0 W0 HP.out.rn HP.out.mp hx.1 t0)
    have HW : Hid ((wrk p 0 ib x0 x1 x2 n cs).1 = 10) := by unfold Hid wrk; simp [t0]
    clear hRd hMd hbd hR hM hp hx t0
    go_enter Tryz.func73, Tryz.ntmps73
    go_wp2_with fail
    rw [← hW0]
    clear hW0
    refine HL0.out.mono ?_
    rintro e w2 ⟨rfl, rfl⟩
    exact ⟨rfl, grB HP.out.bel, .inr (.inr ⟨HW.out, rfl⟩)⟩

set_option maxRecDepth 100000 in
set_option maxHeartbeats 1000000 in
theorem pwork_11 (p R b B nB : Nat) (aL : Option Addr) (nL cL : Nat) (ia ib ic x0 x1 x2 : Int) (n : Rg) (cs : List (Int × Int)) (w : World) (hR : RnAt w R b B aL nL cL n) (hM : MapAt w B nB cs) (hp : w.cell? ⟨b, 0, none⟩ = some (.int .i64 p)) (hnB : nB + 2 < maxLen) (hx : I64 x0 ∧ I64 x1 ∧ I64 x2) :
    Calls Tryz.prog 73 #[.pointer (some ⟨R, 0, none⟩), .agg #[.int .i64 11, .int .i64 ia, .int .i64 ib, .int .i64 ic], .agg #[.int .i64 x0, .int .i64 x1, .int .i64 x2]] w (WpR B (nB + 2) (wrk p 11 ib x0 x1 x2 n cs) w) := by
  have hmx : Tryz.prog.follows .mixedOrders = true := by kernel_rfl
  have HP := hid (woP_of p R b B nB aL nL cL 11 ia ib ic x0 x1 x2 n cs w hR hM hp)
  obtain ⟨W0, hW0⟩ : ∃ W0, W0 = (w.alloc (.cells #[.int .i64 11, .int .i64 ia, .int .i64 ib, .int .i64 ic] 44)).alloc (.cells #[.int .i64 x0, .int .i64 x1, .int .i64 x2] 56) := ⟨_, rfl⟩
  rw [← hW0] at HP
  have hpc := HP.out.hp
  have hbd : Below w.heap.size w W0.drew := HP.out.bel.drew
  have hRd : RnAt W0.drew R b B aL nL cL n := HP.out.rn
  have hMd : MapAt W0.drew B nB cs := HP.out.mp
  have c0 : W0.cell? ⟨R, 0, none⟩ = some (.pointer (some ⟨b, 0, none⟩)) := HP.out.rn.cell (i := 0) (by decide)
  have c3 : W0.cell? ⟨R, 3, none⟩ = some (.int .i64 n.pc) := HP.out.rn.cell (i := 3) (by decide)
  have c4 : W0.cell? ⟨R, 4, none⟩ = some (.int .i64 n.fp) := HP.out.rn.cell (i := 4) (by decide)
  have c6 : W0.cell? ⟨R, 6, none⟩ = some (.int .i64 n.rv) := HP.out.rn.cell (i := 6) (by decide)
  have j2 : W0.cell? ⟨w.heap.size, 2, none⟩ = some (.int .i64 ib) := by simp [World.cell?, HP.out.i]
  have a0 : W0.cell? ⟨w.heap.size + 1, 0, none⟩ = some (.int .i64 x0) := by simp [World.cell?, HP.out.r]
  have a1 : W0.cell? ⟨w.heap.size + 1, 1, none⟩ = some (.int .i64 x1) := by simp [World.cell?, HP.out.r]
  have a2 : W0.cell? ⟨w.heap.size + 1, 2, none⟩ = some (.int .i64 x2) := by simp [World.cell?, HP.out.r]
  have HG : Hid (w.grownBy W0.drew (some B)) := grB hbd
  have HBD := hid hbd
  have HNB := hid hnB

  by_cases t0 : 0 ≤ finz cs x0
  · by_cases t1 : 0 ≤ finz cs x1
    · by_cases t2 : 0 ≤ finz cs x2
      · have HL0 := hid (plook_yes R b B nB aL nL cL n cs x0 W0 HP.out.rn HP.out.mp hx.1 t0)
        have HL1 := hid (plook_yes R b B nB aL nL cL n cs x1 W0 HP.out.rn HP.out.mp hx.2.1 t1)
        have HL2 := hid (plook_yes R b B nB aL nL cL n cs x2 W0 HP.out.rn HP.out.mp hx.2.2 t2)
        have HE : Hid (WpR B (nB + 2) (wrk p 11 ib x0 x1 x2 n cs) w (.returned (.tuple #[])) W0) := by
          have : wrk p 11 ib x0 x1 x2 n cs = (0, cs) := by unfold wrk; simp [t0, t1, t2]
          rw [Hid, this]
          exact ⟨grB HP.out.bel, .inl ⟨rfl, rfl, HP.out.mp.mono (by omega)⟩⟩
        generalize cvl cs x0 = v0 at *
        generalize cvl cs x1 = v1 at *
        generalize cvl cs x2 = v2 at *
        clear hRd hMd hbd hR hM hp hx t0 t1 t2
        go_enter Tryz.func73, Tryz.ntmps73
        go_wp2_with fail
        rw [← hW0]
        clear hW0
        refine HL0.out.mono ?_
        rintro e w2 ⟨rfl, hw2⟩
        rw [hw2]
        clear hw2 w2
        go_wp2_with fail
        refine HL1.out.mono ?_
        rintro e w2 ⟨rfl, hw2⟩
        rw [hw2]
        clear hw2 w2
        go_wp2_with fail
        refine HL2.out.mono ?_
        rintro e w2 ⟨rfl, hw2⟩
        rw [hw2]
        clear hw2 w2
        go_wp2_with fail
        go_end0
        exact HE.out
      · have HL0 := hid (plook_yes R b B nB aL nL cL n cs x0 W0 HP.out.rn HP.out.mp hx.1 t0)
        have HL1 := hid (plook_yes R b B nB aL nL cL n cs x1 W0 HP.out.rn HP.out.mp hx.2.1 t1)
        have HL2 := hid (plook_no R b B nB aL nL cL n cs x2 W0 HP.out.rn HP.out.mp hx.2.2 t2)
        have HW : Hid ((wrk p 11 ib x0 x1 x2 n cs).1 = 10) := by unfold Hid wrk; simp [t0, t1, t2]
        generalize cvl cs x0 = v0 at *
        generalize cvl cs x1 = v1 at *
        clear hRd hMd hbd hR hM hp hx t0 t1 t2
        go_enter Tryz.func73, Tryz.ntmps73
        go_wp2_with fail
        rw [← hW0]
        clear hW0
        refine HL0.out.mono ?_
        rintro e w2 ⟨rfl, hw2⟩
        rw [hw2]
        clear hw2 w2
        go_wp2_with fail
        refine HL1.out.mono ?_
        rintro e w2 ⟨rfl, hw2⟩
        rw [hw2]
        clear hw2 w2
        go_wp2_with fail
        refine HL2.out.mono ?_
        rintro e w2 ⟨rfl, hw2⟩
        rw [hw2]
        exact ⟨rfl, grB HP.out.bel, .inr (.inr ⟨HW.out, rfl⟩)⟩
    · have HL0 := hid (plook_yes R b B nB aL nL cL n cs x0 W0 HP.out.rn HP.out.mp hx.1 t0)
      have HL1 := hid (plook_no R b B nB aL nL cL n cs x1 W0 HP.out.rn HP.out.mp hx.2.1 t1)
      have HW : Hid ((wrk p 11 ib x0 x1 x2 n cs).1 = 10) := by unfold Hid wrk; simp [t0, t1]
      generalize cvl cs x0 = v0 at *
      clear hRd hMd hbd hR hM hp hx t0 t1
      go_enter Tryz.func73, Tryz.ntmps73
      go_wp2_with fail
      rw [← hW0]
      clear hW0
      refine HL0.out.mono ?_
      rintro e w2 ⟨rfl, hw2⟩
      rw [hw2]
      clear hw2 w2
      go_wp2_with fail
      refine HL1.out.mono ?_
      rintro e w2 ⟨rfl, hw2⟩
      rw [hw2]
      exact ⟨rfl, grB HP.out.bel, .inr (.inr ⟨HW.out, rfl⟩)⟩
  · have HL0 := hid (plook_no R b B nB aL nL cL n cs x0 W0 HP.out.rn HP.out.mp hx.1 t0)
    have HW : Hid ((wrk p 11 ib x0 x1 x2 n cs).1 = 10) := by unfold Hid wrk; simp [t0]
    skip
    clear hRd hMd hbd hR hM hp hx t0
    go_enter Tryz.func73, Tryz.ntmps73
    go_wp2_with fail
    rw [← hW0]
    clear hW0
    refine HL0.out.mono ?_
    rintro e w2 ⟨rfl, hw2⟩
    rw [hw2]
    exact ⟨rfl, grB HP.out.bel, .inr (.inr ⟨HW.out, rfl⟩)⟩

set_option maxRecDepth 100000 in
set_option maxHeartbeats 1000000 in
theorem pwork_8 (p R b B nB : Nat) (aL : Option Addr) (nL cL : Nat) (ia ib ic x0 x1 x2 : Int) (n : Rg) (cs : List (Int × Int)) (w : World) (hR : RnAt w R b B aL nL cL n) (hM : MapAt w B nB cs) (hp : w.cell? ⟨b, 0, none⟩ = some (.int .i64 p)) (hnB : nB + 2 < maxLen) :
    Calls Tryz.prog 73 #[.pointer (some ⟨R, 0, none⟩), .agg #[.int .i64 8, .int .i64 ia, .int .i64 ib, .int .i64 ic], .agg #[.int .i64 x0, .int .i64 x1, .int .i64 x2]] w (WpR B (nB + 2) (wrk p 8 ib x0 x1 x2 n cs) w) := by
  have hmx : Tryz.prog.follows .mixedOrders = true := by kernel_rfl
  have HP := hid (woP_of p R b B nB aL nL cL 8 ia ib ic x0 x1 x2 n cs w hR hM hp)
  obtain ⟨W0, hW0⟩ : ∃ W0, W0 = (w.alloc (.cells #[.int .i64 8, .int .i64 ia, .int .i64 ib, .int .i64 ic] 44)).alloc (.cells #[.int .i64 x0, .int .i64 x1, .int .i64 x2] 56) := ⟨_, rfl⟩
  rw [← hW0] at HP
  have hpc := HP.out.hp
  have hbd : Below w.heap.size w W0.drew := HP.out.bel.drew
  have hRd : RnAt W0.drew R b B aL nL cL n := HP.out.rn
  have hMd : MapAt W0.drew B nB cs := HP.out.mp
  have c0 : W0.cell? ⟨R, 0, none⟩ = some (.pointer (some ⟨b, 0, none⟩)) := HP.out.rn.cell (i := 0) (by decide)
  have c3 : W0.cell? ⟨R, 3, none⟩ = some (.int .i64 n.pc) := HP.out.rn.cell (i := 3) (by decide)
  have c4 : W0.cell? ⟨R, 4, none⟩ = some (.int .i64 n.fp) := HP.out.rn.cell (i := 4) (by decide)
  have c6 : W0.cell? ⟨R, 6, none⟩ = some (.int .i64 n.rv) := HP.out.rn.cell (i := 6) (by decide)
  have j2 : W0.cell? ⟨w.heap.size, 2, none⟩ = some (.int .i64 ib) := by simp [World.cell?, HP.out.i]
  have a0 : W0.cell? ⟨w.heap.size + 1, 0, none⟩ = some (.int .i64 x0) := by simp [World.cell?, HP.out.r]
  have a1 : W0.cell? ⟨w.heap.size + 1, 1, none⟩ = some (.int .i64 x1) := by simp [World.cell?, HP.out.r]
  have a2 : W0.cell? ⟨w.heap.size + 1, 2, none⟩ = some (.int .i64 x2) := by simp [World.cell?, HP.out.r]
  have HG : Hid (w.grownBy W0.drew (some B)) := grB hbd
  have HBD := hid hbd
  have HNB := hid hnB

  have HE : Hid (WpR B (nB + 2) (wrk p 8 ib x0 x1 x2 n cs) w (.returned (.tuple #[])) W0) := by
    have : wrk p 8 ib x0 x1 x2 n cs = (0, cs) := by unfold wrk; simp
    rw [Hid, this]
    exact ⟨grB HP.out.bel, .inl ⟨rfl, rfl, HP.out.mp.mono (by omega)⟩⟩
  clear hRd hMd hbd hR hM hp
  go_enter Tryz.func73, Tryz.ntmps73
  go_wp2_with fail
  rw [← hW0]
  clear hW0
  go_end0
  exact HE.out

set_option maxRecDepth 100000 in
set_option maxHeartbeats 1000000 in
theorem pwork_x (p R b B nB : Nat) (aL : Option Addr) (nL cL : Nat) (op ia ib ic x0 x1 x2 : Int) (n : Rg) (cs : List (Int × Int)) (w : World) (hR : RnAt w R b B aL nL cL n) (hM : MapAt w B nB cs) (hp : w.cell? ⟨b, 0, none⟩ = some (.int .i64 p)) (hnB : nB + 2 < maxLen) (hno : op ≠ 0 ∧ op ≠ 1 ∧ op ≠ 2 ∧ op ≠ 3 ∧ op ≠ 4 ∧ op ≠ 5 ∧ op ≠ 6 ∧ op ≠ 7 ∧ op ≠ 8 ∧ op ≠ 9 ∧ op ≠ 10 ∧ op ≠ 11 ∧ op ≠ 12 ∧ op ≠ 13) :
    Calls Tryz.prog 73 #[.pointer (some ⟨R, 0, none⟩), .agg #[.int .i64 op, .int .i64 ia, .int .i64 ib, .int .i64 ic], .agg #[.int .i64 x0, .int .i64 x1, .int .i64 x2]] w (WpR B (nB + 2) (wrk p op ib x0 x1 x2 n cs) w) := by
  have hmx : Tryz.prog.follows .mixedOrders = true := by kernel_rfl
  have HP := hid (woP_of p R b B nB aL nL cL op ia ib ic x0 x1 x2 n cs w hR hM hp)
  obtain ⟨W0, hW0⟩ : ∃ W0, W0 = (w.alloc (.cells #[.int .i64 op, .int .i64 ia, .int .i64 ib, .int .i64 ic] 44)).alloc (.cells #[.int .i64 x0, .int .i64 x1, .int .i64 x2] 56) := ⟨_, rfl⟩
  rw [← hW0] at HP
  have hpc := HP.out.hp
  have hbd : Below w.heap.size w W0.drew := HP.out.bel.drew
  have hRd : RnAt W0.drew R b B aL nL cL n := HP.out.rn
  have hMd : MapAt W0.drew B nB cs := HP.out.mp
  have c0 : W0.cell? ⟨R, 0, none⟩ = some (.pointer (some ⟨b, 0, none⟩)) := HP.out.rn.cell (i := 0) (by decide)
  have c3 : W0.cell? ⟨R, 3, none⟩ = some (.int .i64 n.pc) := HP.out.rn.cell (i := 3) (by decide)
  have c4 : W0.cell? ⟨R, 4, none⟩ = some (.int .i64 n.fp) := HP.out.rn.cell (i := 4) (by decide)
  have c6 : W0.cell? ⟨R, 6, none⟩ = some (.int .i64 n.rv) := HP.out.rn.cell (i := 6) (by decide)
  have j2 : W0.cell? ⟨w.heap.size, 2, none⟩ = some (.int .i64 ib) := by simp [World.cell?, HP.out.i]
  have a0 : W0.cell? ⟨w.heap.size + 1, 0, none⟩ = some (.int .i64 x0) := by simp [World.cell?, HP.out.r]
  have a1 : W0.cell? ⟨w.heap.size + 1, 1, none⟩ = some (.int .i64 x1) := by simp [World.cell?, HP.out.r]
  have a2 : W0.cell? ⟨w.heap.size + 1, 2, none⟩ = some (.int .i64 x2) := by simp [World.cell?, HP.out.r]
  have HG : Hid (w.grownBy W0.drew (some B)) := grB hbd
  have HBD := hid hbd
  have HNB := hid hnB

  have HE : Hid (WpR B (nB + 2) (wrk p op ib x0 x1 x2 n cs) w (pnc 87) W0) := by
    have : wrk p op ib x0 x1 x2 n cs = (7, cs) := by unfold wrk; simp [hno]
    rw [Hid, this]
    exact ⟨grB HP.out.bel, .inr (.inl ⟨rfl, rfl⟩)⟩
  have q0 : (op == 0) = false := by rw [beq_eq_false_iff_ne]; omega
  have q1 : (op == 1) = false := by rw [beq_eq_false_iff_ne]; omega
  have q2 : (op == 2) = false := by rw [beq_eq_false_iff_ne]; omega
  have q3 : (op == 3) = false := by rw [beq_eq_false_iff_ne]; omega
  have q4 : (op == 4) = false := by rw [beq_eq_false_iff_ne]; omega
  have q5 : (op == 5) = false := by rw [beq_eq_false_iff_ne]; omega
  have q6 : (op == 6) = false := by rw [beq_eq_false_iff_ne]; omega
  have q7 : (op == 7) = false := by rw [beq_eq_false_iff_ne]; omega
  have q8 : (op == 8) = false := by rw [beq_eq_false_iff_ne]; omega
  have q9 : (op == 9) = false := by rw [beq_eq_false_iff_ne]; omega
  have q10 : (op == 10) = false := by rw [beq_eq_false_iff_ne]; omega
  have q11 : (op == 11) = false := by rw [beq_eq_false_iff_ne]; omega
  have q12 : (op == 12) = false := by rw [beq_eq_false_iff_ne]; omega
  have q13 : (op == 13) = false := by rw [beq_eq_false_iff_ne]; omega
  clear hRd hMd hbd hR hM hp hno hnB
  go_enter Tryz.func73, Tryz.ntmps73
  go_wp2_with fail
  rw [← hW0]
  clear hW0
  exact ⟨rfl, HE.out⟩

end Go.Proofs.YtfppkjpgihnibaaGreat
