/- Package machine: work, quotients. Package machine: work, calls. Package machine: cells, work and move for any instruction. attestref6.Walk: the walk. Package machine: step. -/
import Derived.Test.YtfppkjpgihnibaaGreatShwAG
import Derived.Test.YtfppkjpgihnibaaGreatSpgs
import Derived.Test.YtfppkjpgihnibaaGreatMahG
import Derived.Test.YtfppkjpgihnibaaGreatMahEa
import Derived.Test.YtfppkjpgihnibaaGreatShwAH
import Derived.Test.YtfppkjpgihnibaaGreatShwAF
import Derived.Deep.RegionHeld3
namespace Go.Proofs.YtfppkjpgihnibaaGreat
open Go.RowKit Go.Maps

set_option maxRecDepth 100000 in
set_option maxHeartbeats 1000000 in
theorem pwork_4 (p R b B nB : Nat) (aL : Option Addr) (nL cL : Nat) (ia ib ic x0 x1 x2 : Int) (n : Rg) (cs : List (Int × Int)) (w : World) (h3 : 3 ≤ p) (h4 : p ≤ 2147483647) (hpr : Num.Prime p) (hR : RnAt w R b B aL nL cL n) (hM : MapAt w B nB cs) (hp : w.cell? ⟨b, 0, none⟩ = some (.int .i64 p)) (hnB : nB + 2 < maxLen) (hx : I64 x0 ∧ I64 x1 ∧ I64 x2) (hcs : ∀ x, 0 ≤ cvl cs x ∧ cvl cs x < p) :
    Calls Tryz.prog 73 #[.pointer (some ⟨R, 0, none⟩), .agg #[.int .i64 4, .int .i64 ia, .int .i64 ib, .int .i64 ic], .agg #[.int .i64 x0, .int .i64 x1, .int .i64 x2]] w (WpR B (nB + 2) (wrk p 4 ib x0 x1 x2 n cs) w) := by
  have hmx : Tryz.prog.follows .mixedOrders = true := by kernel_rfl
  have HP := hid (woP_of p R b B nB aL nL cL 4 ia ib ic x0 x1 x2 n cs w hR hM hp)
  obtain ⟨W0, hW0⟩ : ∃ W0, W0 = (w.alloc (.cells #[.int .i64 4, .int .i64 ia, .int .i64 ib, .int .i64 ic] 44)).alloc (.cells #[.int .i64 x0, .int .i64 x1, .int .i64 x2] 56) := ⟨_, rfl⟩
  rw [← hW0] at HP
  have hpc := HP.out.hp
  have hbd : Below w.heap.size w W0.drew := HP.out.bel.drew
  have hRd : RnAt W0.drew R b B aL nL cL n := HP.out.rn
  have hMd : MapAt W0.drew B nB cs := HP.out.mp
  have c0 : W0.cell? ⟨R, 0, none⟩ = some (.pointer (some ⟨b, 0, none⟩)) := HP.out.rn.cell (i := 0) (by decide)
  have c3 : W0.cell? ⟨R, 3, none⟩ = some (.int .i64 n.pc) := HP.out.rn.cell (i := 3) (by decide)
  have c4 : W0.cell? ⟨R, 4, none⟩ = some (.int .i64 n.fp) := HP.out.rn.cell (i := 4) (by decide)
  have c6 : W0.cell? ⟨R, 6, none⟩ = some (.int .i64 n.rv) := HP.out.rn.cell (i := 6) (by decide)
  have j2 : W0.cell? ⟨w.heap.size, 2, none⟩ = some (.int .i64 ib) := by simp [World.cell?, HP.out.i]
  have a0 : W0.cell? ⟨w.heap.size + 1, 0, none⟩ = some (.int .i64 x0) := by simp [World.cell?, HP.out.r]
  have a1 : W0.cell? ⟨w.heap.size + 1, 1, none⟩ = some (.int .i64 x1) := by simp [World.cell?, HP.out.r]
  have a2 : W0.cell? ⟨w.heap.size + 1, 2, none⟩ = some (.int .i64 x2) := by simp [World.cell?, HP.out.r]
  have HG : Hid (w.grownBy W0.drew (some B)) := grB hbd
  have HBD := hid hbd
  have HNB := hid hnB

  by_cases t0 : 0 ≤ finz cs x0
  · by_cases t1 : 0 ≤ finz cs x1
    · by_cases tv : cvl cs x1 = 0
      · have HL0 := hid (plook_yes R b B nB aL nL cL n cs x0 W0.drew hRd hMd hx.1 t0)
        have HL1 := hid (plook_yes R b B nB aL nL cL n cs x1 W0.drew hRd hMd hx.2.1 t1)
        have hq : (cvl cs x1 != 0) = false := by simp [tv]
        have HT := hid (pmust_no W0.drew)
        have HE : Hid (WpR B (nB + 2) (wrk p 4 ib x0 x1 x2 n cs) w (pnc 87) W0.drew) := by
          have : wrk p 4 ib x0 x1 x2 n cs = (7, cs) := by unfold wrk; simp [t0, t1, tv]
          rw [Hid, this]
          exact ⟨HG.out, .inr (.inl ⟨rfl, rfl⟩)⟩
        clear tv
        generalize cvl cs x0 = v0 at *
        generalize cvl cs x1 = v1 at *
        clear hRd hMd hbd hR hM hp hx hcs t0 t1 h3 h4 hpr
        go_enter Tryz.func73, Tryz.ntmps73
        go_wp2_with fail
        rw [← hW0]
        clear hW0
        refine wp_region_still_tail 8 hmx (by kernel_rfl) ?_
        simp only [List.take_succ_cons, List.take_zero, List.drop_succ_cons, List.drop_zero]
        repeat still_step
        still_call HL0.out
        repeat still_step
        still_call HL1.out
        repeat still_step
        refine wpStill_nil ?_
        go_wp2_with fail
        refine HT.out.mono ?_
        rintro e w2 ⟨rfl, rfl⟩
        exact ⟨rfl, HE.out⟩
      · have HL0 := hid (plook_yes R b B nB aL nL cL n cs x0 W0.drew hRd hMd hx.1 t0)
        have HL1 := hid (plook_yes R b B nB aL nL cL n cs x1 W0.drew hRd hMd hx.2.1 t1)
        have hq : (cvl cs x1 != 0) = true := by simp [tv]
        have HM := hid (pmust_yes W0.drew)
        have b0 := hcs x0
        have b1 := hcs x1
        have HOP : Hid (Calls Tryz.prog 106 #[.pointer (some ⟨b, 0, none⟩), .int .i64 (cvl cs x0), .int .i64 (cvl cs x1)] W0.drew.drew fun e w' => e = .returned (.int .i64 (rkn p 4 (cvl cs x0) (cvl cs x1))) ∧ w' = W0.drew.drew) := by
          have hz : cvl cs x0 * (invn p (cvl cs x1) : Int) % (p : Int) = rkn p 4 (cvl cs x0) (cvl cs x1) := by simp [rkn]
          rw [← hz]
          exact div_any p b _ _ W0.drew.drew hpr h3 h4 hpc (by omega) (by omega) (by omega) (by omega)
        have HT := hid (ptell_any R b B nB aL nL cL n cs x2 (rkn p 4 (cvl cs x0) (cvl cs x1)) W0.drew.drew hRd hMd (by omega) hx.2.2 (rkn_fit h3 h4 _ _ _))
        have HW : Hid (wrk p 4 ib x0 x1 x2 n cs = tel cs x2 (rkn p 4 (cvl cs x0) (cvl cs x1))) := by unfold Hid wrk; simp [t0, t1, tv]
        have HBE : Hid (Below w.heap.size w W0.drew.drew) := hbd.drew
        clear tv
        generalize rkn p 4 (cvl cs x0) (cvl cs x1) = z at *
        generalize cvl cs x0 = v0 at *
        generalize cvl cs x1 = v1 at *
        clear hRd hMd hbd hR hM hp hx hcs b0 b1 t0 t1 h3 h4 hpr
        go_enter Tryz.func73, Tryz.ntmps73
        go_wp2_with fail
        rw [← hW0]
        clear hW0
        refine wp_region_still_tail 8 hmx (by kernel_rfl) ?_
        simp only [List.take_succ_cons, List.take_zero, List.drop_succ_cons, List.drop_zero]
        repeat still_step
        still_call HL0.out
        repeat still_step
        still_call HL1.out
        repeat still_step
        refine wpStill_nil ?_
        go_wp2_with fail
        refine HM.out.mono ?_
        rintro e w1 ⟨rfl, hw1⟩
        have d0 : w1.cell? ⟨R, 0, none⟩ = some (.pointer (some ⟨b, 0, none⟩)) := by rw [hw1]; exact c0
        have e2 : w1.cell? ⟨w.heap.size + 1, 2, none⟩ = some (.int .i64 x2) := by rw [hw1]; exact a2
        rw [← hw1] at HOP HT HBE
        clear hw1 HBD HG HL0 HL1 HM
        go_wp2_with fail
        refine wp_region_still_tail 10 hmx (by kernel_rfl) ?_
        simp only [List.take_succ_cons, List.take_zero, List.drop_succ_cons, List.drop_zero]
        repeat still_step
        still_call HOP.out
        repeat still_step
        refine wpStill_nil ?_
        go_wp2_with fail
        refine HT.out.mono ?_
        rintro e w2 ⟨hg2, ⟨h0, rfl, hm2⟩ | ⟨h7, rfl⟩ | ⟨h10, rfl⟩⟩
        · have HE : Hid (WpR B (nB + 2) (wrk p 4 ib x0 x1 x2 n cs) w (.returned (.tuple #[])) w2) := by
            rw [HW.out]
            exact ⟨grW HBE.out hg2, .inl ⟨h0, rfl, hm2.mono (by omega)⟩⟩
          clear hg2 h0 hm2 HT
          go_wp2_with fail
          go_end0
          exact HE.out
        · exact ⟨rfl, by rw [HW.out]; exact ⟨grW HBE.out hg2, .inr (.inl ⟨h7, rfl⟩)⟩⟩
        · exact ⟨rfl, by rw [HW.out]; exact ⟨grW HBE.out hg2, .inr (.inr ⟨h10, rfl⟩)⟩⟩
    · have HL0 := hid (plook_yes R b B nB aL nL cL n cs x0 W0.drew hRd hMd hx.1 t0)
      have HL1 := hid (plook_no R b B nB aL nL cL n cs x1 W0.drew hRd hMd hx.2.1 t1)
      have HW : Hid ((wrk p 4 ib x0 x1 x2 n cs).1 = 10) := by unfold Hid wrk; simp [t0, t1]
      clear hRd hMd hbd hR hM hp hx hcs h3 h4 hpr t0 t1
      go_enter Tryz.func73, Tryz.ntmps73
      go_wp2_with fail
      rw [← hW0]
      clear hW0
      refine wp_region_held_drew (S := (fun W => W = W0.drew)) (by kernel_rfl) rfl (fun hHeld => ?_)
      refine wpAnyH_takeW (i := 0) (v := .pointer (some ⟨R, 0, none⟩)) rfl (by kernel_rfl) (by kernel_rfl) (by kernel_rfl) (fun _ _ _ h => h) (by rfl) (fun W hC => by (subst hC; go_simp)) hHeld ?_
      simp only [Act.put, List.setIfInBounds_toArray, List.set_cons_zero, List.set_cons_succ]
      refine wpAnyH_takeW (i := 1) (v := .pointer (some ⟨w.heap.size + 1, 0, none⟩)) rfl (by kernel_rfl) (by kernel_rfl) (by kernel_rfl) (fun _ _ _ h => h) (by rfl) (fun W hC => by (subst hC; go_simp)) hHeld ?_
      simp only [Act.put, List.setIfInBounds_toArray, List.set_cons_zero, List.set_cons_succ]
      refine wpAnyH_takeW (i := 2) (v := .int .i64 x0) rfl (by kernel_rfl) (by kernel_rfl) (by kernel_rfl) (fun _ _ _ h => h) (by rfl) (fun W hC => by (subst hC; go_simp)) hHeld ?_
      simp only [Act.put, List.setIfInBounds_toArray, List.set_cons_zero, List.set_cons_succ]
      refine wpAnyH_takeW (i := 4) (v := .pointer (some ⟨R, 0, none⟩)) rfl (by kernel_rfl) (by kernel_rfl) (by kernel_rfl) (fun _ _ _ h => h) (by rfl) (fun W hC => by (subst hC; go_simp)) hHeld ?_
      simp only [Act.put, List.setIfInBounds_toArray, List.set_cons_zero, List.set_cons_succ]
      refine wpAnyH_takeW (i := 5) (v := .pointer (some ⟨w.heap.size + 1, 1, none⟩)) rfl (by kernel_rfl) (by kernel_rfl) (by kernel_rfl) (fun _ _ _ h => h) (by rfl) (fun W hC => by (subst hC; go_simp)) hHeld ?_
      simp only [Act.put, List.setIfInBounds_toArray, List.set_cons_zero, List.set_cons_succ]
      refine wpAnyH_takeW (i := 6) (v := .int .i64 x1) rfl (by kernel_rfl) (by kernel_rfl) (by kernel_rfl) (fun _ _ _ h => h) (by rfl) (fun W hC => by (subst hC; go_simp)) hHeld ?_
      simp only [Act.put, List.setIfInBounds_toArray, List.set_cons_zero, List.set_cons_succ]
      refine wpAnyH_ready (rs := [3]) (by kernel_rfl) (by simp) ?_
      refine AllReadyH.consW rfl (fun K hK => ?_) AllReadyH.nil
      go_simp
      refine HL0.out.mono ?_
      rintro e w2 ⟨rfl, rfl⟩
      refine hK.out _ _ rfl (fun hHeld => ?_)
      clear hK K
      refine wpAnyH_ready (rs := [7]) (by kernel_rfl) (by simp) ?_
      refine AllReadyH.consW rfl (fun K hK => ?_) AllReadyH.nil
      go_simp
      refine HL1.out.mono ?_
      rintro e w2 ⟨rfl, rfl⟩
      exact ⟨rfl, HG.out, .inr (.inr ⟨HW.out, rfl⟩)⟩
  · have HL0 := hid (plook_no R b B nB aL nL cL n cs x0 W0.drew hRd hMd hx.1 t0)
    have HW : Hid ((wrk p 4 ib x0 x1 x2 n cs).1 = 10) := by unfold Hid wrk; simp [t0]
    clear hRd hMd hbd hR hM hp hx hcs h3 h4 hpr t0
    go_enter Tryz.func73, Tryz.ntmps73
    go_wp2_with fail
    rw [← hW0]
    clear hW0
    refine wp_region_held_drew (S := (fun W => W = W0.drew)) (by kernel_rfl) rfl (fun hHeld => ?_)
    refine wpAnyH_takeW (i := 0) (v := .pointer (some ⟨R, 0, none⟩)) rfl (by kernel_rfl) (by kernel_rfl) (by kernel_rfl) (fun _ _ _ h => h) (by rfl) (fun W hC => by (subst hC; go_simp)) hHeld ?_
    simp only [Act.put, List.setIfInBounds_toArray, List.set_cons_zero, List.set_cons_succ]
    refine wpAnyH_takeW (i := 1) (v := .pointer (some ⟨w.heap.size + 1, 0, none⟩)) rfl (by kernel_rfl) (by kernel_rfl) (by kernel_rfl) (fun _ _ _ h => h) (by rfl) (fun W hC => by (subst hC; go_simp)) hHeld ?_
    simp only [Act.put, List.setIfInBounds_toArray, List.set_cons_zero, List.set_cons_succ]
    refine wpAnyH_takeW (i := 2) (v := .int .i64 x0) rfl (by kernel_rfl) (by kernel_rfl) (by kernel_rfl) (fun _ _ _ h => h) (by rfl) (fun W hC => by (subst hC; go_simp)) hHeld ?_
    simp only [Act.put, List.setIfInBounds_toArray, List.set_cons_zero, List.set_cons_succ]
    refine wpAnyH_takeW (i := 4) (v := .pointer (some ⟨R, 0, none⟩)) rfl (by kernel_rfl) (by kernel_rfl) (by kernel_rfl) (fun _ _ _ h => h) (by rfl) (fun W hC => by (subst hC; go_simp)) hHeld ?_
    simp only [Act.put, List.setIfInBounds_toArray, List.set_cons_zero, List.set_cons_succ]
    refine wpAnyH_takeW (i := 5) (v := .pointer (some ⟨w.heap.size + 1, 1, none⟩)) rfl (by kernel_rfl) (by kernel_rfl) (by kernel_rfl) (fun _ _ _ h => h) (by rfl) (fun W hC => by (subst hC; go_simp)) hHeld ?_
    simp only [Act.put, List.setIfInBounds_toArray, List.set_cons_zero, List.set_cons_succ]
    refine wpAnyH_takeW (i := 6) (v := .int .i64 x1) rfl (by kernel_rfl) (by kernel_rfl) (by kernel_rfl) (fun _ _ _ h => h) (by rfl) (fun W hC => by (subst hC; go_simp)) hHeld ?_
    simp only [Act.put, List.setIfInBounds_toArray, List.set_cons_zero, List.set_cons_succ]
    refine wpAnyH_ready (rs := [3]) (by kernel_rfl) (by simp) ?_
    refine AllReadyH.consW rfl (fun K hK => ?_) AllReadyH.nil
    go_simp
    refine HL0.out.mono ?_
    rintro e w2 ⟨rfl, rfl⟩
    exact ⟨rfl, HG.out, .inr (.inr ⟨HW.out, rfl⟩)⟩

end Go.Proofs.YtfppkjpgihnibaaGreat

namespace Go.Proofs.YtfppkjpgihnibaaGreat
open Go.RowKit Go.Maps

set_option maxRecDepth 100000 in
set_option maxHeartbeats 1000000 in
theorem pwork_10 (p R b B nB : Nat) (aL : Option Addr) (nL cL : Nat) (ia ib ic x0 x1 x2 : Int) (n : Rg) (cs : List (Int × Int)) (w : World) (h3 : 3 ≤ p) (h4 : p ≤ 2147483647) (hR : RnAt w R b B aL nL cL n) (hM : MapAt w B nB cs) (hp : w.cell? ⟨b, 0, none⟩ = some (.int .i64 p)) (hnB : nB + 2 < maxLen) (hx : I64 x0 ∧ I64 x1 ∧ I64 x2) (hn : I64 n.pc ∧ I64 n.fp) :
    Calls Tryz.prog 73 #[.pointer (some ⟨R, 0, none⟩), .agg #[.int .i64 10, .int .i64 ia, .int .i64 ib, .int .i64 ic], .agg #[.int .i64 x0, .int .i64 x1, .int .i64 x2]] w (WpR B (nB + 2) (wrk p 10 ib x0 x1 x2 n cs) w) := by
  have hmx : Tryz.prog.follows .mixedOrders = true := by kernel_rfl
  have HP := hid (woP_of p R b B nB aL nL cL 10 ia ib ic x0 x1 x2 n cs w hR hM hp)
  obtain ⟨W0, hW0⟩ : ∃ W0, W0 = (w.alloc (.cells #[.int .i64 10, .int .i64 ia, .int .i64 ib, .int .i64 ic] 44)).alloc (.cells #[.int .i64 x0, .int .i64 x1, .int .i64 x2] 56) := ⟨_, rfl⟩
  rw [← hW0] at HP
  have hpc := HP.out.hp
  have hbd : Below w.heap.size w W0.drew := HP.out.bel.drew
  have hRd : RnAt W0.drew R b B aL nL cL n := HP.out.rn
  have hMd : MapAt W0.drew B nB cs := HP.out.mp
  have c0 : W0.cell? ⟨R, 0, none⟩ = some (.pointer (some ⟨b, 0, none⟩)) := HP.out.rn.cell (i := 0) (by decide)
  have c3 : W0.cell? ⟨R, 3, none⟩ = some (.int .i64 n.pc) := HP.out.rn.cell (i := 3) (by decide)
  have c4 : W0.cell? ⟨R, 4, none⟩ = some (.int .i64 n.fp) := HP.out.rn.cell (i := 4) (by decide)
  have c6 : W0.cell? ⟨R, 6, none⟩ = some (.int .i64 n.rv) := HP.out.rn.cell (i := 6) (by decide)
  have j2 : W0.cell? ⟨w.heap.size, 2, none⟩ = some (.int .i64 ib) := by simp [World.cell?, HP.out.i]
  have a0 : W0.cell? ⟨w.heap.size + 1, 0, none⟩ = some (.int .i64 x0) := by simp [World.cell?, HP.out.r]
  have a1 : W0.cell? ⟨w.heap.size + 1, 1, none⟩ = some (.int .i64 x1) := by simp [World.cell?, HP.out.r]
  have a2 : W0.cell? ⟨w.heap.size + 1, 2, none⟩ = some (.int .i64 x2) := by simp [World.cell?, HP.out.r]
  have HG : Hid (w.grownBy W0.drew (some B)) := grB hbd
  have HBD := hid hbd
  have HNB := hid hnB

  have hzb : I64 ((n.pc + 1) % (p : Int)) := by have := emod_bounds (n.pc + 1) p h3; exact ⟨by omega, by omega⟩
  have HT := hid (ptell_any R b B nB aL nL cL n cs x0 n.fp W0.drew hRd hMd (by omega) hx.1 hn.2)
  have HK : Hid (∀ W : World, W0.drew.grownBy W (some B) → W.cell? ⟨R, 0, none⟩ = some (.pointer (some ⟨b, 0, none⟩)) ∧ W.cell? ⟨R, 3, none⟩ = some (.int .i64 n.pc) ∧ W.cell? ⟨w.heap.size + 1, 1, none⟩ = some (.int .i64 x1) ∧ W.cell? ⟨b, 0, none⟩ = some (.int .i64 p) ∧ RnAt W R b B aL nL cL n) := fun W g => ⟨cell_told hMd g c0, cell_told hMd g c3, cell_told hMd g a1, cell_told hMd g hpc, hRd.told hMd g⟩
  have HA : Hid (∀ W : World, W.cell? ⟨b, 0, none⟩ = some (.int .i64 p) → Calls Tryz.prog 50 #[.pointer (some ⟨b, 0, none⟩), .int .i64 n.pc, .int .i64 1] W fun e w' => e = .returned (.int .i64 ((n.pc + 1) % (p : Int))) ∧ w' = W) := fun W h => add_any p b _ _ W h3 h4 h hn.1.1 hn.1.2 (by decide) (by decide)
  have HTT : Hid (∀ W : World, RnAt W R b B aL nL cL n → MapAt W B (nB + 1) (tel cs x0 n.fp).2 → Calls Tryz.prog 104 #[.pointer (some ⟨R, 0, none⟩), .int .i64 x1, .int .i64 ((n.pc + 1) % (p : Int))] W (WpR B (nB + 1 + 1) (tel (tel cs x0 n.fp).2 x1 ((n.pc + 1) % (p : Int))) W)) := fun W hr hm => ptell_any R b B (nB + 1) aL nL cL n _ x1 _ W hr hm (by omega) hx.2.1 hzb
  have HW1 : Hid ((tel cs x0 n.fp).1 ≠ 0 → wrk p 10 ib x0 x1 x2 n cs = tel cs x0 n.fp) := fun h => by unfold wrk; simp [h]
  have HW2 : Hid ((tel cs x0 n.fp).1 = 0 → wrk p 10 ib x0 x1 x2 n cs = tel (tel cs x0 n.fp).2 x1 ((n.pc + 1) % (p : Int))) := fun h => by unfold wrk; simp [h]
  generalize (n.pc + 1) % (p : Int) = z at *
  clear hRd hMd hbd hR hM hp hx hn hzb h3 h4
  go_enter Tryz.func73, Tryz.ntmps73
  go_wp2_with fail
  rw [← hW0]
  clear hW0
  refine wp_region_still_tail 7 hmx (by kernel_rfl) ?_
  simp only [List.take_succ_cons, List.take_zero, List.drop_succ_cons, List.drop_zero]
  repeat still_step
  refine wpStill_nil ?_
  go_wp2_with fail
  refine HT.out.mono ?_
  rintro e w2 ⟨hg2, ⟨h0, rfl, hm2⟩ | ⟨h7, rfl⟩ | ⟨h10, rfl⟩⟩
  · obtain ⟨d0, d3, f1, dp, dr⟩ := HK.out w2 hg2
    have HT2 := hid (HTT.out w2.drew dr hm2)
    have HA2 := hid (HA.out w2.drew dp)
    have HWW := hid (HW2.out h0)
    have HG2 : Hid (w.grownBy w2.drew (some B)) := by
      have := grW HBD.out hg2
      exact ⟨this.os, this.tape, this.output, this.size, this.block⟩
    clear hg2 h0 hm2 HT HK HA HTT HW1 HW2 dr c0 c3 c4 c6 j2 a0 a1 a2 hpc
    go_wp2_with fail
    refine wp_region_still_tail 12 hmx (by kernel_rfl) ?_
    simp only [List.take_succ_cons, List.take_zero, List.drop_succ_cons, List.drop_zero]
    repeat still_step
    still_call HA2.out
    repeat still_step
    refine wpStill_nil ?_
    go_wp2_with fail
    refine HT2.out.mono ?_
    rintro e w3 ⟨hg3, ⟨h0, rfl, hm3⟩ | ⟨h7, rfl⟩ | ⟨h10, rfl⟩⟩
    · have HE : Hid (WpR B (nB + 2) (wrk p 10 ib x0 x1 x2 n cs) w (.returned (.tuple #[])) w3) := by
        rw [HWW.out]
        exact ⟨HG2.out.trans hg3, .inl ⟨h0, rfl, hm3.mono (by omega)⟩⟩
      clear hg3 h0 hm3 HT2
      go_wp2_with fail
      go_end0
      exact HE.out
    · exact ⟨rfl, by rw [HWW.out]; exact ⟨HG2.out.trans hg3, .inr (.inl ⟨h7, rfl⟩)⟩⟩
    · exact ⟨rfl, by rw [HWW.out]; exact ⟨HG2.out.trans hg3, .inr (.inr ⟨h10, rfl⟩)⟩⟩
  · exact ⟨rfl, by rw [HW1.out (by rw [h7]; decide)]; exact ⟨grW HBD.out hg2, .inr (.inl ⟨h7, rfl⟩)⟩⟩
  · exact ⟨rfl, by rw [HW1.out (by rw [h10]; decide)]; exact ⟨grW HBD.out hg2, .inr (.inr ⟨h10, rfl⟩)⟩⟩

end Go.Proofs.YtfppkjpgihnibaaGreat

namespace Go.Proofs.YtfppkjpgihnibaaGreat
open Go.RowKit Go.Maps

theorem pcells_any (p b : Nat) (op ia ib ic fp ap : Int) (w : World) (h3 : 3 ≤ p) (h4 : p ≤ 2147483647) (hp : w.cell? ⟨b, 0, none⟩ = some (.int .i64 p)) (hb : I64 ia ∧ I64 ib ∧ I64 ic ∧ I64 fp ∧ I64 ap) :
    Calls Tryz.prog 72 #[.pointer (some ⟨b, 0, none⟩), .agg #[.int .i64 op, .int .i64 ia, .int .i64 ib, .int .i64 ic], .int .i64 fp, .int .i64 ap] w (CeR p op ia ib ic fp ap w) := by
  by_cases h0 : op = 0; · subst h0; exact pcells_0 p b ia ib ic fp ap w h3 h4 hp hb
  by_cases h1 : op = 1; · subst h1; exact pcells_1 p b ia ib ic fp ap w h3 h4 hp hb
  by_cases h2 : op = 2; · subst h2; exact pcells_2 p b ia ib ic fp ap w h3 h4 hp hb
  by_cases h3' : op = 3; · subst h3'; exact pcells_3 p b ia ib ic fp ap w h3 h4 hp hb
  by_cases h4' : op = 4; · subst h4'; exact pcells_4 p b ia ib ic fp ap w h3 h4 hp hb
  by_cases h5 : op = 5; · subst h5; exact pcells_5 p b ia ib ic fp ap w h3 h4 hp hb
  by_cases h6 : op = 6; · subst h6; exact pcells_6 p b ia ib ic fp ap w h3 h4 hp hb
  by_cases h7 : op = 7; · subst h7; exact pcells_7 p b ia ib ic fp ap w h3 h4 hp hb
  by_cases h8 : op = 8; · subst h8; exact pcells_8 p b ia ib ic fp ap w hp
  by_cases h9 : op = 9; · subst h9; exact pcells_9 p b ia ib ic fp ap w h3 h4 hp hb
  by_cases h10 : op = 10; · subst h10; exact pcells_10 p b ia ib ic fp ap w h3 h4 hp hb
  by_cases h11 : op = 11; · subst h11; exact pcells_11 p b ia ib ic fp ap w h3 h4 hp hb
  by_cases h12 : op = 12; · subst h12; exact pcells_12 p b ia ib ic fp ap w h3 h4 hp hb
  by_cases h13 : op = 13; · subst h13; exact pcells_13 p b ia ib ic fp ap w h3 h4 hp hb
  exact pcells_x p b op ia ib ic fp ap w hp ⟨h0, h1, h2, h3', h4', h5, h6, h7, h9, h10, h11, h12, h13⟩

theorem pwork_any (p R b B nB : Nat) (aL : Option Addr) (nL cL : Nat) (op ia ib ic x0 x1 x2 : Int) (n : Rg) (cs : List (Int × Int)) (w : World) (h3 : 3 ≤ p) (h4 : p ≤ 2147483647) (hpr : Num.Prime p) (hR : RnAt w R b B aL nL cL n) (hM : MapAt w B nB cs) (hp : w.cell? ⟨b, 0, none⟩ = some (.int .i64 p)) (hnB : nB + 2 < maxLen) (hx : I64 x0 ∧ I64 x1 ∧ I64 x2) (hcs : ∀ x, 0 ≤ cvl cs x ∧ cvl cs x < p) (hib : I64 ib) (hn : I64 n.pc ∧ I64 n.fp ∧ I64 n.rv) :
    Calls Tryz.prog 73 #[.pointer (some ⟨R, 0, none⟩), .agg #[.int .i64 op, .int .i64 ia, .int .i64 ib, .int .i64 ic], .agg #[.int .i64 x0, .int .i64 x1, .int .i64 x2]] w (WpR B (nB + 2) (wrk p op ib x0 x1 x2 n cs) w) := by
  by_cases h0 : op = 0; · subst h0; exact pwork_0 p R b B nB aL nL cL ia ib ic x0 x1 x2 n cs w hR hM hp hnB hx
  by_cases h1 : op = 1; · subst h1; exact pwork_1 p R b B nB aL nL cL ia ib ic x0 x1 x2 n cs w h3 h4 hR hM hp hnB hx hcs
  by_cases h2 : op = 2; · subst h2; exact pwork_2 p R b B nB aL nL cL ia ib ic x0 x1 x2 n cs w h3 h4 hR hM hp hnB hx hcs
  by_cases h3' : op = 3; · subst h3'; exact pwork_3 p R b B nB aL nL cL ia ib ic x0 x1 x2 n cs w h3 h4 hR hM hp hnB hx hcs
  by_cases h4' : op = 4; · subst h4'; exact pwork_4 p R b B nB aL nL cL ia ib ic x0 x1 x2 n cs w h3 h4 hpr hR hM hp hnB hx hcs
  by_cases h5 : op = 5; · subst h5; exact pwork_5 p R b B nB aL nL cL ia ib ic x0 x1 x2 n cs w h3 h4 hR hM hp hnB hx hib
  by_cases h6 : op = 6; · subst h6; exact pwork_6 p R b B nB aL nL cL ia ib ic x0 x1 x2 n cs w h3 h4 hR hM hp hnB hx
  by_cases h7 : op = 7; · subst h7; exact pwork_7 p R b B nB aL nL cL ia ib ic x0 x1 x2 n cs w hR hM hp hnB hx
  by_cases h8 : op = 8; · subst h8; exact pwork_8 p R b B nB aL nL cL ia ib ic x0 x1 x2 n cs w hR hM hp hnB
  by_cases h9 : op = 9; · subst h9; exact pwork_9 p R b B nB aL nL cL ia ib ic x0 x1 x2 n cs w hR hM hp hnB hx
  by_cases h10 : op = 10; · subst h10; exact pwork_10 p R b B nB aL nL cL ia ib ic x0 x1 x2 n cs w h3 h4 hR hM hp hnB hx ⟨hn.1, hn.2.1⟩
  by_cases h11 : op = 11; · subst h11; exact pwork_11 p R b B nB aL nL cL ia ib ic x0 x1 x2 n cs w hR hM hp hnB hx
  by_cases h12 : op = 12; · subst h12; exact pwork_12 p R b B nB aL nL cL ia ib ic x0 x1 x2 n cs w hR hM hp hnB hx hn.2.2
  by_cases h13 : op = 13; · subst h13; exact pwork_13 p R b B nB aL nL cL ia ib ic x0 x1 x2 n cs w hR hM hp hnB hx hcs h4
  exact pwork_x p R b B nB aL nL cL op ia ib ic x0 x1 x2 n cs w hR hM hp hnB ⟨h0, h1, h2, h3', h4', h5, h6, h7, h8, h9, h10, h11, h12, h13⟩

theorem pmove_any (p R b B : Nat) (aL : Option Addr) (nL cL : Nat) (op ia ib ic s0 s1 s2 : Int) (n : Rg) (w : World) (h3 : 3 ≤ p) (h4 : p ≤ 2147483647) (hR : RnAt w R b B aL nL cL n) (hp : w.cell? ⟨b, 0, none⟩ = some (.int .i64 p)) (hne : b ≠ R) (hn : I64 n.pc ∧ I64 n.ap) (hi : I64 ia ∧ I64 ib) :
    Calls Tryz.prog 74 #[.pointer (some ⟨R, 0, none⟩), .agg #[.int .i64 op, .int .i64 ia, .int .i64 ib, .int .i64 ic], .agg #[.int .i64 s0, .int .i64 s1, .int .i64 s2]] w (MvR R b B aL nL cL (mvg p op ia ib n s0 s1 s2) w) := by
  by_cases h8 : op = 8; · subst h8; exact pmove_8 p R b B aL nL cL ia ib ic s0 s1 s2 n w h3 h4 hR hp hne hn hi
  by_cases h9 : op = 9
  · subst h9
    by_cases hs : s0 = 0
    · exact pmove_9y p R b B aL nL cL ia ib ic s0 s1 s2 n w h3 h4 hR hp hne hn hi hs
    · exact pmove_9n p R b B aL nL cL ia ib ic s0 s1 s2 n w h3 h4 hR hp hne hn hi hs
  by_cases h10 : op = 10; · subst h10; exact pmove_10 p R b B aL nL cL ia ib ic s0 s1 s2 n w h3 h4 hR hp hne hn hi
  by_cases h11 : op = 11; · subst h11; exact pmove_11 p R b B aL nL cL ia ib ic s0 s1 s2 n w h3 h4 hR hp hne hn hi
  exact pmove_x p R b B aL nL cL op ia ib ic s0 s1 s2 n w h3 h4 hR hp hne hn hi ⟨h8, h9, h10, h11⟩

end Go.Proofs.YtfppkjpgihnibaaGreat

namespace Go.Proofs.YtfppkjpgihnibaaGreat
open Go.RowKit

def stvs (l : List (List Int)) : List Value := l.flatMap (fun x => x.map (Value.int .i64))
/-- steps of the call's own -/
def StR (base : Nat) (w : World) (v : Value) (l : List (List Int)) : Prop := w.ownsRow base 58 10 v l.length (stvs l)
theorem Tryz.infoStep : (Tryz.prog.info? 58).map (fun i => (i.zero, i.size, i.bytes)) = some (some (.agg #[.int .i64 0, .int .i64 0, .int .i64 0, .int .i64 0, .int .i64 0, .int .i64 0, .int .i64 0, .int .i64 0, .int .i64 0, .int .i64 0]), 10, 80) := by kernel_rfl
def lenW : Value → Nat
  | .slice _ n _ => n
  | _ => 0
section
variable {P : Program} {ops : Array Oper} {Q : Exit → Act → World → Prop} {md : Region.Mode} {S : World → Prop}
end
theorem stvs_app (l : List (List Int)) (x : List Int) : stvs (l ++ [x]) = stvs l ++ x.map (Value.int .i64) := by simp [stvs]
/-- what is known at the loop's head -/
structure WkI (p limit : Nat) (L : List InsZ) (X : WR) (s : RM) (l : List (List Int)) (f : Nat) : Prop where
  is : X = mgo p L limit f { s with slot := 0 } l
  fuel : l.length + f = limit + 1
  pos : 1 ≤ f
  cs : ∀ j, j < s.cs.length → 0 ≤ (cat s.cs j).2 ∧ (cat s.cs j).2 < p
  len : s.cs.length ≤ 1 + 2 * l.length
  rg : RgB p ⟨s.pc, s.fp, s.ap, s.rv⟩
  err : s.err = 0
/-- append(l, s): a step more -/
theorem wpList_stp {ops : Array Oper} {rest : List Oper} {o : Oper} {act : Act} {Q : Exit → Act → World → Prop} (W : World) (hgd : o.guard = none) (s x : Operand)
    (ho : o.op = .call { callee := .builtin .append, args := #[s, x], argTypes := #[50, 50] }) (v : Value) (base : Nat) (l : List (List Int)) (z0 z1 z2 z3 z4 z5 z6 z7 z8 z9 : Int)
    (hown : StR base W v l) (hs : act.eval s = v) (hx : act.eval x = .slice (some ⟨W.heap.size, 0, none⟩) 1 1) (hlen : l.length ≤ 20000) (hbase : base ≤ W.heap.size)
    (h : ∀ v' w2, StR base w2 v' (l ++ [[z0, z1, z2, z3, z4, z5, z6, z7, z8, z9]]) → Below base W w2 → W.grownBy w2 v.ownBlock → wpList Tryz.prog ops Q rest (act.put o.dst v') w2) :
    wpList Tryz.prog ops Q (o :: rest) act (W.alloc (.cells #[.int .i64 z0, .int .i64 z1, .int .i64 z2, .int .i64 z3, .int .i64 z4, .int .i64 z5, .int .i64 z6, .int .i64 z7, .int .i64 z8, .int .i64 z9] 58)) := by
  obtain ⟨cs, hcs⟩ : ∃ cs, cs = #[Value.int .i64 z0, .int .i64 z1, .int .i64 z2, .int .i64 z3, .int .i64 z4, .int .i64 z5, .int .i64 z6, .int .i64 z7, .int .i64 z8, .int .i64 z9] := ⟨_, rfl⟩
  rw [← hcs]
  have hbw : Below W.heap.size W (W.alloc (.cells cs 58)) := (Below.refl _ _).alloc (Nat.le_refl _) _
  obtain ⟨i0, hi, hz0, hz1, hz2⟩ := info_parts Tryz.infoStep
  have h1 : (W.alloc (.cells cs 58)).ownsRow base 58 10 v l.length (stvs l) := hown.alloc _
  refine wpList_append_own _ hgd s x 50 ho base 58 i0 _ 10 80 Tryz.underlying50 hi hz0 hz1 hz2 rfl (by decide) _ _ _ hs h1 ⟨W.heap.size, 0, none⟩ 1 1 cs.toList hx (by rw [hcs]; rfl) ?_ ?_ (by unfold maxLen; omega) (by omega) (by simp; omega) ?_
  · intro j t hj
    have hc : (W.alloc (.cells cs 58)).heap[W.heap.size]? = some (.cells cs 58 (0, 0)) := heap_alloc_new W _
    have hadd : (⟨W.heap.size, 0, none⟩ : Addr).add j = ⟨W.heap.size, j, none⟩ := by unfold Addr.add; split <;> simp_all
    rw [hadd]
    simp only [World.cell?, hc]
    simpa using hj
  · intro t ht
    rw [hcs] at ht
    have ht2 : t = .int .i64 z0 ∨ t = .int .i64 z1 ∨ t = .int .i64 z2 ∨ t = .int .i64 z3 ∨ t = .int .i64 z4 ∨ t = .int .i64 z5 ∨ t = .int .i64 z6 ∨ t = .int .i64 z7 ∨ t = .int .i64 z8 ∨ t = .int .i64 z9 := by simpa using ht
    rcases ht2 with rfl | rfl | rfl | rfl | rfl | rfl | rfl | rfl | rfl | rfl <;> rfl
  · intro v' w2 hown2 hgrow _
    have hB0 : Below base (W.alloc (.cells cs 58)) w2 := (Below.refl base _).grown hgrow (by simp; omega) (fun k hk => (h1.lt k hk).1)
    refine h v' w2 ?_ ((hbw.mono hbase).trans hB0) ⟨hgrow.os, hgrow.tape, hgrow.output, by have := hgrow.size; simp at this; omega, fun k hk hne => (hgrow.block k (by simp; omega) hne).trans (hbw.block k hk)⟩
    unfold StR
    rw [stvs_app, List.length_append]
    rw [hcs] at hown2
    simpa using hown2

theorem gb_noneM {W W' : World} (e : Below W.heap.size W W') : W.grownBy W' none := ⟨e.os, e.tape, e.output, e.size, fun k hk _ => e.block k hk⟩
theorem gb_toM {g n : Nat} {A B : World} (h : A.grownBy B (some g)) (hn : n ≤ g) (hs : n ≤ A.heap.size) : Below n A B := ⟨h.os, h.tape, h.output, h.size, fun k hk => h.block k (by omega) (by intro e; injection e with e; omega)⟩

end Go.Proofs.YtfppkjpgihnibaaGreat

namespace Go.Proofs.YtfppkjpgihnibaaGreat
open Go.RowKit Go.Maps

/-- of the blocks that were there two alone have turned -/
structure Gr2 (B R : Nat) (w W : World) : Prop where
  os : W.os = w.os
  tape : W.tape = w.tape
  output : W.output = w.output
  size : w.heap.size ≤ W.heap.size
  block : ∀ k, k < w.heap.size → k ≠ B → k ≠ R → W.heap[k]? = w.heap[k]?
theorem Gr2.of1 {B R : Nat} {w W : World} (h : w.grownBy W (some B)) : Gr2 B R w W := ⟨h.os, h.tape, h.output, h.size, fun k hk h1 _ => h.block k hk (by intro e; injection e with e; exact h1 e)⟩
theorem Gr2.of2 {B R : Nat} {w W : World} (h : w.grownBy W (some R)) : Gr2 B R w W := ⟨h.os, h.tape, h.output, h.size, fun k hk _ h1 => h.block k hk (by intro e; injection e with e; exact h1 e)⟩
theorem Gr2.ofB {B R : Nat} {w W : World} (h : Below w.heap.size w W) : Gr2 B R w W := ⟨h.os, h.tape, h.output, h.size, fun k hk _ _ => h.block k hk⟩
theorem Gr2.trans {B R : Nat} {a b c : World} (h : Gr2 B R a b) (k : Gr2 B R b c) : Gr2 B R a c := ⟨k.os.trans h.os, k.tape.trans h.tape, k.output.trans h.output, Nat.le_trans h.size k.size, fun j hj h1 h2 => (k.block j (Nat.lt_of_lt_of_le hj h.size) h1 h2).trans (h.block j hj h1 h2)⟩
theorem Gr2.to {B R N : Nat} {w W : World} (h : Gr2 B R w W) (hB : N ≤ B) (hR : N ≤ R) (hs : N ≤ w.heap.size) : Below N w W := ⟨h.os, h.tape, h.output, h.size, fun k hk => h.block k (by omega) (by omega) (by omega)⟩

/-- a step's cells -/
def st10 (n : Rg) (x y : Nat → Int) : Nat → Value
  | 0 => .int .i64 n.pc
  | 1 => .int .i64 n.fp
  | 2 => .int .i64 n.ap
  | 3 => .int .i64 n.rv
  | 4 => .int .i64 (x 0)
  | 5 => .int .i64 (x 1)
  | 6 => .int .i64 (x 2)
  | 7 => .int .i64 (y 0)
  | 8 => .int .i64 (y 1)
  | _ => .int .i64 (y 2)
/-- what stands in step -/
structure SpP (p R b B nB C G : Nat) (aL : Option Addr) (nL cL : Nat) (op ia ib ic : Int) (n : Rg) (cs : List (Int × Int)) (n0 : Rg) (x y : Nat → Int) (w W : World) : Prop where
  rn : RnAt W R b B aL nL cL n
  mp : MapAt W B nB cs
  hp : W.cell? ⟨b, 0, none⟩ = some (.int .i64 p)
  i : W.heap[C]? = some (.cells #[.int .i64 op, .int .i64 ia, .int .i64 ib, .int .i64 ic] 44 (0, 0))
  z : W.rowIs (C + 1) 58 10 (fun _ => .int .i64 0)
  s : W.rowIs G 58 10 (st10 n0 x y)
  gr : Gr2 B R w W
  cN : w.heap.size ≤ C
  cG : C + 1 < G

/-- two ways that meet again -/
theorem share {Good F : Nat → World → Prop} {goal : Prop} (h2 : (∀ G W, Good G W → F G W) → goal) (h1 : ∀ G W, Good G W → F G W) : goal := h2 h1
/-- a step's block that is new -/
theorem new10 (W : World) : (W.alloc (.cells #[.int .i64 0, .int .i64 0, .int .i64 0, .int .i64 0, .int .i64 0, .int .i64 0, .int .i64 0, .int .i64 0, .int .i64 0, .int .i64 0] 58)).rowIs W.heap.size 58 10 (fun _ => .int .i64 0) :=
  row_newM W _ _ 10 _ rfl (fun i hi => by rcases ten hi with rfl | rfl | rfl | rfl | rfl | rfl | rfl | rfl | rfl | rfl <;> rfl)

theorem put10_gb (W : World) (G : Nat) (f : Nat → Value) : W.grownBy (put10 W G f) (some G) := by
  unfold put10
  exact gbM (gbM (gbM (gbM (gbM (gbM (gbM (gbM (gbM (gbM (gb_same W G))))))))))
theorem put10_below {W0 W : World} {G : Nat} (e : Below W0.heap.size W0 W) (hG : W0.heap.size ≤ G) (f : Nat → Value) : Below W0.heap.size W0 (put10 W G f) :=
  e.trans (gb_toM (put10_gb W G f) hG e.size)
theorem SpP.of {p R b B nB C G : Nat} {aL : Option Addr} {nL cL : Nat} {op ia ib ic : Int} {n : Rg} {cs : List (Int × Int)} {x y : Nat → Int} {w W0 W : World} (hR : RnAt W0 R b B aL nL cL n) (hM : MapAt W0 B nB cs) (hp : W0.cell? ⟨b, 0, none⟩ = some (.int .i64 p)) (hi : W0.heap[C]? = some (.cells #[.int .i64 op, .int .i64 ia, .int .i64 ib, .int .i64 ic] 44 (0, 0))) (hz : W0.rowIs (C + 1) 58 10 (fun _ => .int .i64 0)) (hb : Below w.heap.size w W0) (e : Below W0.heap.size W0 W) (hs : W.rowIs G 58 10 (st10 n x y)) (hC : w.heap.size ≤ C) (hG : W0.heap.size ≤ G) : SpP p R b B nB C G aL nL cL op ia ib ic n cs n x y w W :=
  ⟨hR.of_block (e.block _ hR.lt), hM.kept (gb_noneM e) (by simp), (e.cell (p := ⟨b, 0, none⟩) (World.block_lt_of_cell? _ _ hp)).trans hp, (e.block _ (Array.getElem?_eq_some_iff.1 hi).1).trans hi, hz.of_block (e.block _ hz.lt), hs, (Gr2.ofB hb).trans (Gr2.ofB e), hC, Nat.lt_of_lt_of_le hz.lt hG⟩
section
variable {p R b B nB m C G : Nat} {aL : Option Addr} {nL cL : Nat} {op ia ib ic : Int} {n n' n0 : Rg} {cs cs' : List (Int × Int)} {x y : Nat → Int} {w W W' : World}
/-- the map turns -/
theorem SpP.told (h : SpP p R b B nB C G aL nL cL op ia ib ic n cs n0 x y w W) (g : W.grownBy W' (some B)) (hm : MapAt W' B m cs') : SpP p R b B m C G aL nL cL op ia ib ic n cs' n0 x y w W' :=
  ⟨h.rn.told h.mp g, hm, cell_told h.mp g h.hp, map_blk h.mp g h.i, by obtain ⟨c, h1, h2⟩ := h.z; exact ⟨c, map_blk h.mp g h1, h2⟩, by obtain ⟨c, h1, h2⟩ := h.s; exact ⟨c, map_blk h.mp g h1, h2⟩, h.gr.trans (Gr2.of1 g), h.cN, h.cG⟩
/-- nothing turns -/
theorem SpP.step (h : SpP p R b B nB C G aL nL cL op ia ib ic n cs n0 x y w W) (e : Below W.heap.size W W') : SpP p R b B nB C G aL nL cL op ia ib ic n cs n0 x y w W' :=
  ⟨h.rn.of_block (e.block _ h.rn.lt), h.mp.kept (gb_noneM e) (by simp), (e.cell (p := ⟨b, 0, none⟩) (World.block_lt_of_cell? _ _ h.hp)).trans h.hp, (e.block _ (Array.getElem?_eq_some_iff.1 h.i).1).trans h.i, h.z.of_block (e.block _ h.z.lt), h.s.of_block (e.block _ h.s.lt), h.gr.trans (Gr2.ofB e), h.cN, h.cG⟩
end

/-- what is shown so far -/
def fil (cs : List (Int × Int)) (x : Nat → Int) (j : Nat) : Nat → Int := fun i => if i < j then cvl cs (x i) else 0
section
variable {p R b B nB C G : Nat} {aL : Option Addr} {nL cL : Nat} {op ia ib ic : Int} {n n0 : Rg} {cs : List (Int × Int)} {x y y' : Nat → Int} {w W : World}
/-- a cell of the step's own is written -/
theorem SpP.put (h : SpP p R b B nB C G aL nL cL op ia ib ic n cs n0 x y w W) (k : Nat) (v : Int) (hb : b < w.heap.size) (hy : ∀ i, i < 10 → (if i = k then Value.int .i64 v else st10 n0 x y i) = st10 n0 x y' i) : SpP p R b B nB C G aL nL cL op ia ib ic n cs n0 x y' w (W.setCell ⟨G, k, none⟩ (.int .i64 v)) := by
  have hoth : ∀ j, j ≠ G → (W.setCell ⟨G, k, none⟩ (.int .i64 v)).heap[j]? = W.heap[j]? := fun j hj => Below.heap_setCell _ _ _ _ hj
  have hg : W.grownBy (W.setCell ⟨G, k, none⟩ (.int .i64 v)) (some G) := gbM (gb_same W G)
  have hs' := h.s
  have hr' := h.rn
  obtain ⟨c, hc, _⟩ := hs'
  obtain ⟨d, hd, _⟩ := hr'
  have hGR : R ≠ G := by
    rintro rfl
    rw [hc] at hd
    injection hd with hd
    injection hd with _ h2 _
    exact absurd h2 (by decide)
  have h1 := h.cN
  have h2 := h.cG
  exact ⟨h.rn.of_block (hoth _ hGR), h.mp.kept hg (by intro e; injection e with e; exact map_ne h.mp hc e.symm), (World.cell?_of_block (w := W) (a := ⟨b, 0, none⟩) (hoth b (by omega))).trans h.hp, (hoth _ (by omega)).trans h.i, h.z.of_block (hoth _ (by omega)), (h.s.set k (.int .i64 v)).congr (fun i hi => hy i hi), ⟨hg.os.trans h.gr.os, hg.tape.trans h.gr.tape, hg.output.trans h.gr.output, Nat.le_trans h.gr.size hg.size, fun j hj e1 e2 => (hoth j (by omega)).trans (h.gr.block j hj e1 e2)⟩, h.cN, h.cG⟩
end

theorem ix3_0 (x y z : Int) (w : World) : (Instr.index 56 (.agg #[.int .i64 x, .int .i64 y, .int .i64 z]) (.int .i64 0)).run Tryz.prog w = .ok (.int .i64 x) w := by kernel_rfl
theorem ix3_1 (x y z : Int) (w : World) : (Instr.index 56 (.agg #[.int .i64 x, .int .i64 y, .int .i64 z]) (.int .i64 1)).run Tryz.prog w = .ok (.int .i64 y) w := by kernel_rfl
theorem ix3_2 (x y z : Int) (w : World) : (Instr.index 56 (.agg #[.int .i64 x, .int .i64 y, .int .i64 z]) (.int .i64 2)).run Tryz.prog w = .ok (.int .i64 z) w := by kernel_rfl

end Go.Proofs.YtfppkjpgihnibaaGreat
