/- Package machine: work, set, take, pass. Package machine: work, zero, halt, back, jump, others. Package machine: work, quotients. Package machine: work, calls. Package machine: cells, work and move for any instruction. -/
import Derived.Test.YtdpdmgmeieijaaaGreatDoorSndAG
import Derived.Test.YtdpdmgmeieijaaaGreatDoorSpgs
import Derived.Test.YtdpdmgmeieijaaaGreatDoorMahG
import Derived.Test.YtdpdmgmeieijaaaGreatDoorSndAH
namespace Go.Proofs.YtdpdmgmeieijaaaGreatDoor
open Go.RowKit Go.Maps

set_option maxRecDepth 100000 in
set_option maxHeartbeats 1000000 in
theorem pwork_5 (p R b B nB : Nat) (aL : Option Addr) (nL cL : Nat) (ia ib ic x0 x1 x2 : Int) (n : Rg) (cs : List (Int × Int)) (w : World) (h3 : 3 ≤ p) (h4 : p ≤ 2147483647) (hR : RnAt w R b B aL nL cL n) (hM : MapAt w B nB cs) (hp : w.cell? ⟨b, 0, none⟩ = some (.int .i64 p)) (hnB : nB + 2 < maxLen) (hx : I64 x0 ∧ I64 x1 ∧ I64 x2) (hib : I64 ib) :
    Calls Tryz.prog 79 #[.pointer (some ⟨R, 0, none⟩), .agg #[.int .i64 5, .int .i64 ia, .int .i64 ib, .int .i64 ic], .agg #[.int .i64 x0, .int .i64 x1, .int .i64 x2]] w (WpR B (nB + 2) (wrk p 5 ib x0 x1 x2 n cs) w) := by
  have hmx : Tryz.prog.follows .mixedOrders = true := by kernel_rfl
  have HP := hid (woP_of p R b B nB aL nL cL 5 ia ib ic x0 x1 x2 n cs w hR hM hp)
  obtain ⟨W0, hW0⟩ : ∃ W0, W0 = (w.alloc (.cells #[.int .i64 5, .int .i64 ia, .int .i64 ib, .int .i64 ic] 45)).alloc (.cells #[.int .i64 x0, .int .i64 x1, .int .i64 x2] 64) := ⟨_, rfl⟩
  rw [← hW0] at HP
  have hpc := HP.out.hp
  have hbd : Below w.heap.size w W0.drew := HP.out.bel.drew
  have hRd : RnAt W0.drew R b B aL nL cL n := HP.out.rn
  have hMd : MapAt W0.drew B nB cs := HP.out.mp
  have c0 : W0.cell? ⟨R, 0, none⟩ = some (.pointer (some ⟨b, 0, none⟩)) := HP.out.rn.cell (i := 0) (by decide)
  have c3 : W0.cell? ⟨R, 3, none⟩ = some (.int .i64 n.pc) := HP.out.rn.cell (i := 3) (by decide)
  have c4 : W0.cell? ⟨R, 4, none⟩ = some (.int .i64 n.fp) := HP.out.rn.cell (i := 4) (by decide)
  have c6 : W0.cell? ⟨R, 6, none⟩ = some (.int .i64 n.rv) := HP.out.rn.cell (i := 6) (by decide)
  have j2 : W0.cell? ⟨w.heap.size, 2, none⟩ = some (.int .i64 ib) := by simp [World.cell?, HP.out.i]
  have a0 : W0.cell? ⟨w.heap.size + 1, 0, none⟩ = some (.int .i64 x0) := by simp [World.cell?, HP.out.r]
  have a1 : W0.cell? ⟨w.heap.size + 1, 1, none⟩ = some (.int .i64 x1) := by simp [World.cell?, HP.out.r]
  have a2 : W0.cell? ⟨w.heap.size + 1, 2, none⟩ = some (.int .i64 x2) := by simp [World.cell?, HP.out.r]
  have HG : Hid (w.grownBy W0.drew (some B)) := grB hbd
  have HBD := hid hbd
  have HNB := hid hnB

  have hzb : I64 (ib % (p : Int)) := by have := emod_bounds ib p h3; exact ⟨by omega, by omega⟩
  have HOP : Hid (Calls Tryz.prog 33 #[.pointer (some ⟨b, 0, none⟩), .int .i64 ib] W0.drew fun e w' => e = .returned (.int .i64 (ib % (p : Int))) ∧ w' = W0.drew) := of_any p b _ W0.drew h3 h4 hpc hib.1 hib.2
  have HT := hid (ptell_any R b B nB aL nL cL n cs x0 (ib % (p : Int)) W0.drew hRd hMd (by omega) hx.1 hzb)
  have HW : Hid (wrk p 5 ib x0 x1 x2 n cs = tel cs x0 (ib % (p : Int))) := by unfold Hid wrk; simp
  generalize ib % (p : Int) = z at *
  clear hRd hMd hbd hR hM hp hx h3 h4 hzb
  go_enter Tryz.func79, Tryz.ntmps79
  go_wp2_with fail
  rw [← hW0]
  clear hW0
  refine wp_region_still_tail 10 hmx (by kernel_rfl) ?_
  simp only [List.take_succ_cons, List.take_zero, List.drop_succ_cons, List.drop_zero]
  repeat still_step
  still_call HOP.out
  repeat still_step
  refine wpStill_nil ?_
  go_wp2_with fail
  refine HT.out.mono ?_
  rintro e w2 ⟨hg2, ⟨h0, rfl, hm2⟩ | ⟨h7, rfl⟩ | ⟨h10, rfl⟩⟩
  · have HE : Hid (WpR B (nB + 2) (wrk p 5 ib x0 x1 x2 n cs) w (.returned (.tuple #[])) w2) := by
      rw [HW.out]
      exact ⟨grW HBD.out hg2, .inl ⟨h0, rfl, hm2.mono (by omega)⟩⟩
    clear hg2 h0 hm2 HT
    go_wp2_with fail
    go_end0
    exact HE.out
  · exact ⟨rfl, by rw [HW.out]; exact ⟨grW HBD.out hg2, .inr (.inl ⟨h7, rfl⟩)⟩⟩
  · exact ⟨rfl, by rw [HW.out]; exact ⟨grW HBD.out hg2, .inr (.inr ⟨h10, rfl⟩)⟩⟩

set_option maxRecDepth 100000 in
set_option maxHeartbeats 1000000 in
theorem pwork_12 (p R b B nB : Nat) (aL : Option Addr) (nL cL : Nat) (ia ib ic x0 x1 x2 : Int) (n : Rg) (cs : List (Int × Int)) (w : World) (hR : RnAt w R b B aL nL cL n) (hM : MapAt w B nB cs) (hp : w.cell? ⟨b, 0, none⟩ = some (.int .i64 p)) (hnB : nB + 2 < maxLen) (hx : I64 x0 ∧ I64 x1 ∧ I64 x2) (hrv : I64 n.rv) :
    Calls Tryz.prog 79 #[.pointer (some ⟨R, 0, none⟩), .agg #[.int .i64 12, .int .i64 ia, .int .i64 ib, .int .i64 ic], .agg #[.int .i64 x0, .int .i64 x1, .int .i64 x2]] w (WpR B (nB + 2) (wrk p 12 ib x0 x1 x2 n cs) w) := by
  have hmx : Tryz.prog.follows .mixedOrders = true := by kernel_rfl
  have HP := hid (woP_of p R b B nB aL nL cL 12 ia ib ic x0 x1 x2 n cs w hR hM hp)
  obtain ⟨W0, hW0⟩ : ∃ W0, W0 = (w.alloc (.cells #[.int .i64 12, .int .i64 ia, .int .i64 ib, .int .i64 ic] 45)).alloc (.cells #[.int .i64 x0, .int .i64 x1, .int .i64 x2] 64) := ⟨_, rfl⟩
  rw [← hW0] at HP
  have hpc := HP.out.hp
  have hbd : Below w.heap.size w W0.drew := HP.out.bel.drew
  have hRd : RnAt W0.drew R b B aL nL cL n := HP.out.rn
  have hMd : MapAt W0.drew B nB cs := HP.out.mp
  have c0 : W0.cell? ⟨R, 0, none⟩ = some (.pointer (some ⟨b, 0, none⟩)) := HP.out.rn.cell (i := 0) (by decide)
  have c3 : W0.cell? ⟨R, 3, none⟩ = some (.int .i64 n.pc) := HP.out.rn.cell (i := 3) (by decide)
  have c4 : W0.cell? ⟨R, 4, none⟩ = some (.int .i64 n.fp) := HP.out.rn.cell (i := 4) (by decide)
  have c6 : W0.cell? ⟨R, 6, none⟩ = some (.int .i64 n.rv) := HP.out.rn.cell (i := 6) (by decide)
  have j2 : W0.cell? ⟨w.heap.size, 2, none⟩ = some (.int .i64 ib) := by simp [World.cell?, HP.out.i]
  have a0 : W0.cell? ⟨w.heap.size + 1, 0, none⟩ = some (.int .i64 x0) := by simp [World.cell?, HP.out.r]
  have a1 : W0.cell? ⟨w.heap.size + 1, 1, none⟩ = some (.int .i64 x1) := by simp [World.cell?, HP.out.r]
  have a2 : W0.cell? ⟨w.heap.size + 1, 2, none⟩ = some (.int .i64 x2) := by simp [World.cell?, HP.out.r]
  have HG : Hid (w.grownBy W0.drew (some B)) := grB hbd
  have HBD := hid hbd
  have HNB := hid hnB

  have HT := hid (ptell_any R b B nB aL nL cL n cs x0 n.rv W0.drew hRd hMd (by omega) hx.1 hrv)
  have HW : Hid (wrk p 12 ib x0 x1 x2 n cs = tel cs x0 n.rv) := by unfold Hid wrk; simp
  clear hRd hMd hbd hR hM hp hx
  go_enter Tryz.func79, Tryz.ntmps79
  go_wp2_with fail
  rw [← hW0]
  clear hW0
  refine wp_region_still_tail 7 hmx (by kernel_rfl) ?_
  simp only [List.take_succ_cons, List.take_zero, List.drop_succ_cons, List.drop_zero]
  repeat still_step
  refine wpStill_nil ?_
  go_wp2_with fail
  refine HT.out.mono ?_
  rintro e w2 ⟨hg2, ⟨h0, rfl, hm2⟩ | ⟨h7, rfl⟩ | ⟨h10, rfl⟩⟩
  · have HE : Hid (WpR B (nB + 2) (wrk p 12 ib x0 x1 x2 n cs) w (.returned (.tuple #[])) w2) := by
      rw [HW.out]
      exact ⟨grW HBD.out hg2, .inl ⟨h0, rfl, hm2.mono (by omega)⟩⟩
    clear hg2 h0 hm2 HT
    go_wp2_with fail
    go_end0
    exact HE.out
  · exact ⟨rfl, by rw [HW.out]; exact ⟨grW HBD.out hg2, .inr (.inl ⟨h7, rfl⟩)⟩⟩
  · exact ⟨rfl, by rw [HW.out]; exact ⟨grW HBD.out hg2, .inr (.inr ⟨h10, rfl⟩)⟩⟩

set_option maxRecDepth 100000 in
set_option maxHeartbeats 1000000 in
theorem pwork_13 (p R b B nB : Nat) (aL : Option Addr) (nL cL : Nat) (ia ib ic x0 x1 x2 : Int) (n : Rg) (cs : List (Int × Int)) (w : World) (hR : RnAt w R b B aL nL cL n) (hM : MapAt w B nB cs) (hp : w.cell? ⟨b, 0, none⟩ = some (.int .i64 p)) (hnB : nB + 2 < maxLen) (hx : I64 x0 ∧ I64 x1 ∧ I64 x2) (hcs : ∀ x, 0 ≤ cvl cs x ∧ cvl cs x < p) (h4 : p ≤ 2147483647) :
    Calls Tryz.prog 79 #[.pointer (some ⟨R, 0, none⟩), .agg #[.int .i64 13, .int .i64 ia, .int .i64 ib, .int .i64 ic], .agg #[.int .i64 x0, .int .i64 x1, .int .i64 x2]] w (WpR B (nB + 2) (wrk p 13 ib x0 x1 x2 n cs) w) := by
  have hmx : Tryz.prog.follows .mixedOrders = true := by kernel_rfl
  have HP := hid (woP_of p R b B nB aL nL cL 13 ia ib ic x0 x1 x2 n cs w hR hM hp)
  obtain ⟨W0, hW0⟩ : ∃ W0, W0 = (w.alloc (.cells #[.int .i64 13, .int .i64 ia, .int .i64 ib, .int .i64 ic] 45)).alloc (.cells #[.int .i64 x0, .int .i64 x1, .int .i64 x2] 64) := ⟨_, rfl⟩
  rw [← hW0] at HP
  have hpc := HP.out.hp
  have hbd : Below w.heap.size w W0.drew := HP.out.bel.drew
  have hRd : RnAt W0.drew R b B aL nL cL n := HP.out.rn
  have hMd : MapAt W0.drew B nB cs := HP.out.mp
  have c0 : W0.cell? ⟨R, 0, none⟩ = some (.pointer (some ⟨b, 0, none⟩)) := HP.out.rn.cell (i := 0) (by decide)
  have c3 : W0.cell? ⟨R, 3, none⟩ = some (.int .i64 n.pc) := HP.out.rn.cell (i := 3) (by decide)
  have c4 : W0.cell? ⟨R, 4, none⟩ = some (.int .i64 n.fp) := HP.out.rn.cell (i := 4) (by decide)
  have c6 : W0.cell? ⟨R, 6, none⟩ = some (.int .i64 n.rv) := HP.out.rn.cell (i := 6) (by decide)
  have j2 : W0.cell? ⟨w.heap.size, 2, none⟩ = some (.int .i64 ib) := by simp [World.cell?, HP.out.i]
  have a0 : W0.cell? ⟨w.heap.size + 1, 0, none⟩ = some (.int .i64 x0) := by simp [World.cell?, HP.out.r]
  have a1 : W0.cell? ⟨w.heap.size + 1, 1, none⟩ = some (.int .i64 x1) := by simp [World.cell?, HP.out.r]
  have a2 : W0.cell? ⟨w.heap.size + 1, 2, none⟩ = some (.int .i64 x2) := by simp [World.cell?, HP.out.r]
  have HG : Hid (w.grownBy W0.drew (some B)) := grB hbd
  have HBD := hid hbd
  have HNB := hid hnB

  by_cases t0 : 0 ≤ finz cs x0
  · have HL0 := hid (plook_yes R b B nB aL nL cL n cs x0 W0.drew hRd hMd hx.1 t0)
    have b0 := hcs x0
    have HT := hid (ptell_any R b B nB aL nL cL n cs x1 (cvl cs x0) W0.drew hRd hMd (by omega) hx.2.1 ⟨by omega, by omega⟩)
    have HW : Hid (wrk p 13 ib x0 x1 x2 n cs = tel cs x1 (cvl cs x0)) := by unfold Hid wrk; simp [t0]
    generalize cvl cs x0 = v0 at *
    clear hRd hMd hbd hR hM hp hx hcs b0 t0 h4
    go_enter Tryz.func79, Tryz.ntmps79
    go_wp2_with fail
    rw [← hW0]
    clear hW0
    refine wp_region_still_tail 7 hmx (by kernel_rfl) ?_
    simp only [List.take_succ_cons, List.take_zero, List.drop_succ_cons, List.drop_zero]
    repeat still_step
    still_call HL0.out
    repeat still_step
    refine wpStill_nil ?_
    go_wp2_with fail
    refine HT.out.mono ?_
    rintro e w2 ⟨hg2, ⟨h0, rfl, hm2⟩ | ⟨h7, rfl⟩ | ⟨h10, rfl⟩⟩
    · have HE : Hid (WpR B (nB + 2) (wrk p 13 ib x0 x1 x2 n cs) w (.returned (.tuple #[])) w2) := by
        rw [HW.out]
        exact ⟨grW HBD.out hg2, .inl ⟨h0, rfl, hm2.mono (by omega)⟩⟩
      clear hg2 h0 hm2 HT
      go_wp2_with fail
      go_end0
      exact HE.out
    · exact ⟨rfl, by rw [HW.out]; exact ⟨grW HBD.out hg2, .inr (.inl ⟨h7, rfl⟩)⟩⟩
    · exact ⟨rfl, by rw [HW.out]; exact ⟨grW HBD.out hg2, .inr (.inr ⟨h10, rfl⟩)⟩⟩
  · have HL0 := hid (plook_no R b B nB aL nL cL n cs x0 W0.drew hRd hMd hx.1 t0)
    have HW : Hid ((wrk p 13 ib x0 x1 x2 n cs).1 = 10) := by unfold Hid wrk; simp [t0]
    clear hRd hMd hbd hR hM hp hx hcs t0 h4
    go_enter Tryz.func79, Tryz.ntmps79
    go_wp2_with fail
    rw [← hW0]
    clear hW0
    refine wp_region_held_drew (S := (fun W => W = W0.drew)) (by kernel_rfl) rfl (fun hHeld => ?_)
    refine wpAnyH_takeW (i := 0) (v := .pointer (some ⟨R, 0, none⟩)) rfl (by kernel_rfl) (by kernel_rfl) (by kernel_rfl) (fun _ _ _ h => h) (by rfl) (fun W hC => by (subst hC; go_simp)) hHeld ?_
    simp only [Act.put, List.setIfInBounds_toArray, List.set_cons_zero, List.set_cons_succ]
    refine wpAnyH_takeW (i := 1) (v := .pointer (some ⟨w.heap.size + 1, 1, none⟩)) rfl (by kernel_rfl) (by kernel_rfl) (by kernel_rfl) (fun _ _ _ h => h) (by rfl) (fun W hC => by (subst hC; go_simp)) hHeld ?_
    simp only [Act.put, List.setIfInBounds_toArray, List.set_cons_zero, List.set_cons_succ]
    refine wpAnyH_takeW (i := 2) (v := .int .i64 x1) rfl (by kernel_rfl) (by kernel_rfl) (by kernel_rfl) (fun _ _ _ h => h) (by rfl) (fun W hC => by (subst hC; go_simp)) hHeld ?_
    simp only [Act.put, List.setIfInBounds_toArray, List.set_cons_zero, List.set_cons_succ]
    refine wpAnyH_takeW (i := 3) (v := .pointer (some ⟨R, 0, none⟩)) rfl (by kernel_rfl) (by kernel_rfl) (by kernel_rfl) (fun _ _ _ h => h) (by rfl) (fun W hC => by (subst hC; go_simp)) hHeld ?_
    simp only [Act.put, List.setIfInBounds_toArray, List.set_cons_zero, List.set_cons_succ]
    refine wpAnyH_takeW (i := 4) (v := .pointer (some ⟨w.heap.size + 1, 0, none⟩)) rfl (by kernel_rfl) (by kernel_rfl) (by kernel_rfl) (fun _ _ _ h => h) (by rfl) (fun W hC => by (subst hC; go_simp)) hHeld ?_
    simp only [Act.put, List.setIfInBounds_toArray, List.set_cons_zero, List.set_cons_succ]
    refine wpAnyH_takeW (i := 5) (v := .int .i64 x0) rfl (by kernel_rfl) (by kernel_rfl) (by kernel_rfl) (fun _ _ _ h => h) (by rfl) (fun W hC => by (subst hC; go_simp)) hHeld ?_
    simp only [Act.put, List.setIfInBounds_toArray, List.set_cons_zero, List.set_cons_succ]
    refine wpAnyH_ready (rs := [6]) (by kernel_rfl) (by simp) ?_
    refine AllReadyH.consW rfl (fun K hK => ?_) AllReadyH.nil
    go_simp
    refine HL0.out.mono ?_
    rintro e w2 ⟨rfl, rfl⟩
    exact ⟨rfl, HG.out, .inr (.inr ⟨HW.out, rfl⟩)⟩

end Go.Proofs.YtdpdmgmeieijaaaGreatDoor

namespace Go.Proofs.YtdpdmgmeieijaaaGreatDoor
open Go.RowKit Go.Maps

set_option maxRecDepth 100000 in
set_option maxHeartbeats 1000000 in
theorem pwork_9 (p R b B nB : Nat) (aL : Option Addr) (nL cL : Nat) (ia ib ic x0 x1 x2 : Int) (n : Rg) (cs : List (Int × Int)) (w : World) (hR : RnAt w R b B aL nL cL n) (hM : MapAt w B nB cs) (hp : w.cell? ⟨b, 0, none⟩ = some (.int .i64 p)) (hnB : nB + 2 < maxLen) (hx : I64 x0 ∧ I64 x1 ∧ I64 x2) :
    Calls Tryz.prog 79 #[.pointer (some ⟨R, 0, none⟩), .agg #[.int .i64 9, .int .i64 ia, .int .i64 ib, .int .i64 ic], .agg #[.int .i64 x0, .int .i64 x1, .int .i64 x2]] w (WpR B (nB + 2) (wrk p 9 ib x0 x1 x2 n cs) w) := by
  have hmx : Tryz.prog.follows .mixedOrders = true := by kernel_rfl
  have HP := hid (woP_of p R b B nB aL nL cL 9 ia ib ic x0 x1 x2 n cs w hR hM hp)
  obtain ⟨W0, hW0⟩ : ∃ W0, W0 = (w.alloc (.cells #[.int .i64 9, .int .i64 ia, .int .i64 ib, .int .i64 ic] 45)).alloc (.cells #[.int .i64 x0, .int .i64 x1, .int .i64 x2] 64) := ⟨_, rfl⟩
  rw [← hW0] at HP
  have hpc := HP.out.hp
  have hbd : Below w.heap.size w W0.drew := HP.out.bel.drew
  have hRd : RnAt W0.drew R b B aL nL cL n := HP.out.rn
  have hMd : MapAt W0.drew B nB cs := HP.out.mp
  have c0 : W0.cell? ⟨R, 0, none⟩ = some (.pointer (some ⟨b, 0, none⟩)) := HP.out.rn.cell (i := 0) (by decide)
  have c3 : W0.cell? ⟨R, 3, none⟩ = some (.int .i64 n.pc) := HP.out.rn.cell (i := 3) (by decide)
  have c4 : W0.cell? ⟨R, 4, none⟩ = some (.int .i64 n.fp) := HP.out.rn.cell (i := 4) (by decide)
  have c6 : W0.cell? ⟨R, 6, none⟩ = some (.int .i64 n.rv) := HP.out.rn.cell (i := 6) (by decide)
  have j2 : W0.cell? ⟨w.heap.size, 2, none⟩ = some (.int .i64 ib) := by simp [World.cell?, HP.out.i]
  have a0 : W0.cell? ⟨w.heap.size + 1, 0, none⟩ = some (.int .i64 x0) := by simp [World.cell?, HP.out.r]
  have a1 : W0.cell? ⟨w.heap.size + 1, 1, none⟩ = some (.int .i64 x1) := by simp [World.cell?, HP.out.r]
  have a2 : W0.cell? ⟨w.heap.size + 1, 2, none⟩ = some (.int .i64 x2) := by simp [World.cell?, HP.out.r]
  have HG : Hid (w.grownBy W0.drew (some B)) := grB hbd
  have HBD := hid hbd
  have HNB := hid hnB

  by_cases t0 : 0 ≤ finz cs x0
  · have HL0 := hid (plook_yes R b B nB aL nL cL n cs x0 W0 HP.out.rn HP.out.mp hx.1 t0)
    have HE : Hid (WpR B (nB + 2) (wrk p 9 ib x0 x1 x2 n cs) w (.returned (.tuple #[])) W0) := by
      have : wrk p 9 ib x0 x1 x2 n cs = (0, cs) := by unfold wrk; simp [t0]
      rw [Hid, this]
      exact ⟨grB HP.out.bel, .inl ⟨rfl, rfl, HP.out.mp.mono (by omega)⟩⟩
    generalize cvl cs x0 = v0 at *
    clear hRd hMd hbd hR hM hp hx t0
    go_enter Tryz.func79, Tryz.ntmps79
    go_wp2_with fail
    rw [← hW0]
    clear hW0
    refine HL0.out.mono ?_
    rintro e w2 ⟨rfl, rfl⟩
    go_wp2_with fail
    go_end0
    exact HE.out
  · have HL0 := hid (plook_no R b B nB aL nL cL n cs x0 W0 HP.out.rn HP.out.mp hx.1 t0)
    have HW : Hid ((wrk p 9 ib x0 x1 x2 n cs).1 = 10) := by unfold Hid wrk; simp [t0]
    clear hRd hMd hbd hR hM hp hx t0
    go_enter Tryz.func79, Tryz.ntmps79
    go_wp2_with fail
    rw [← hW0]
    clear hW0
    refine HL0.out.mono ?_
    rintro e w2 ⟨rfl, rfl⟩
    exact ⟨rfl, grB HP.out.bel, .inr (.inr ⟨HW.out, rfl⟩)⟩

set_option maxRecDepth 100000 in
set_option maxHeartbeats 1000000 in
theorem pwork_0 (p R b B nB : Nat) (aL : Option Addr) (nL cL : Nat) (ia ib ic x0 x1 x2 : Int) (n : Rg) (cs : List (Int × Int)) (w : World) (hR : RnAt w R b B aL nL cL n) (hM : MapAt w B nB cs) (hp : w.cell? ⟨b, 0, none⟩ = some (.int .i64 p)) (hnB : nB + 2 < maxLen) (hx : I64 x0 ∧ I64 x1 ∧ I64 x2) :
    Calls Tryz.prog 79 #[.pointer (some ⟨R, 0, none⟩), .agg #[.int .i64 0, .int .i64 ia, .int .i64 ib, .int .i64 ic], .agg #[.int .i64 x0, .int .i64 x1, .int .i64 x2]] w (WpR B (nB + 2) (wrk p 0 ib x0 x1 x2 n cs) w) := by
  have hmx : Tryz.prog.follows .mixedOrders = true := by kernel_rfl
  have HP := hid (woP_of p R b B nB aL nL cL 0 ia ib ic x0 x1 x2 n cs w hR hM hp)
  obtain ⟨W0, hW0⟩ : ∃ W0, W0 = (w.alloc (.cells #[.int .i64 0, .int .i64 ia, .int .i64 ib, .int .i64 ic] 45)).alloc (.cells #[.int .i64 x0, .int .i64 x1, .int .i64 x2] 64) := ⟨_, rfl⟩
  rw [← hW0] at HP
  have hpc := HP.out.hp
  have hbd : Below w.heap.size w W0.drew := HP.out.bel.drew
  have hRd : RnAt W0.drew R b B aL nL cL n := HP.out.rn
  have hMd : MapAt W0.drew B nB cs := HP.out.mp
  have c0 : W0.cell? ⟨R, 0, none⟩ = some (.pointer (some ⟨b, 0, none⟩)) := HP.out.rn.cell (i := 0) (by decide)
  have c3 : W0.cell? ⟨R, 3, none⟩ = some (.int .i64 n.pc) := HP.out.rn.cell (i := 3) (by decide)
  have c4 : W0.cell? ⟨R, 4, none⟩ = some (.int .i64 n.fp) := HP.out.rn.cell (i := 4) (by decide)
  have c6 : W0.cell? ⟨R, 6, none⟩ = some (.int .i64 n.rv) := HP.out.rn.cell (i := 6) (by decide)
  have j2 : W0.cell? ⟨w.heap.size, 2, none⟩ = some (.int .i64 ib) := by simp [World.cell?, HP.out.i]
  have a0 : W0.cell? ⟨w.heap.size + 1, 0, none⟩ = some (.int .i64 x0) := by simp [World.cell?, HP.out.r]
  have a1 : W0.cell? ⟨w.heap.size + 1, 1, none⟩ = some (.int .i64 x1) := by simp [World.cell?, HP.out.r]
  have a2 : W0.cell? ⟨w.heap.size + 1, 2, none⟩ = some (.int .i64 x2) := by simp [World.cell?, HP.out.r]
  have HG : Hid (w.grownBy W0.drew (some B)) := grB hbd
  have HBD := hid hbd
  have HNB := hid hnB

  by_cases t0 : 0 ≤ finz cs x0
  · have HL0 := hid (plook_yes R b B nB aL nL cL n cs x0 W0 HP.out.rn HP.out.mp hx.1 t0)
    have HE : Hid (WpR B (nB + 2) (wrk p 0 ib x0 x1 x2 n cs) w (.returned (.tuple #[])) W0) := by
      have : wrk p 0 ib x0 x1 x2 n cs = (0, cs) := by unfold wrk; simp [t0]
      rw [Hid, this]
      exact ⟨grB HP.out.bel, .inl ⟨rfl, rfl, HP.out.mp.mono (by omega)⟩⟩
    generalize cvl cs x0 = v0 at *
    clear hRd hMd hbd hR hM hp hx t0
    go_enter Tryz.func79, Tryz.ntmps79
    go_wp2_with fail
    rw [← hW0]
    clear hW0
    refine HL0.out.mono ?_
    rintro e w2 ⟨rfl, rfl⟩
    go_wp2_with fail
    go_end0
    exact HE.out
  · have HL0 := hid (plook_no R b B nB aL nL cL n cs x0 W0 HP.out.rn HP.out.mp hx.1 t0)
    have HW : Hid ((wrk p 0 ib x0 x1 x2 n cs).1 = 10) := by unfold Hid wrk; simp [t0]
    clear hRd hMd hbd hR hM hp hx t0
    go_enter Tryz.func79, Tryz.ntmps79
    go_wp2_with fail
    rw [← hW0]
    clear hW0
    refine HL0.out.mono ?_
    rintro e w2 ⟨rfl, rfl⟩
    exact ⟨rfl, grB HP.out.bel, .inr (.inr ⟨HW.out, rfl⟩)⟩

set_option maxRecDepth 100000 in
set_option maxHeartbeats 1000000 in
theorem pwork_11 (p R b B nB : Nat) (aL : Option Addr) (nL cL : Nat) (ia ib ic x0 x1 x2 : Int) (n : Rg) (cs : List (Int × Int)) (w : World) (hR : RnAt w R b B aL nL cL n) (hM : MapAt w B nB cs) (hp : w.cell? ⟨b, 0, none⟩ = some (.int .i64 p)) (hnB : nB + 2 < maxLen) (hx : I64 x0 ∧ I64 x1 ∧ I64 x2) :
    Calls Tryz.prog 79 #[.pointer (some ⟨R, 0, none⟩), .agg #[.int .i64 11, .int .i64 ia, .int .i64 ib, .int .i64 ic], .agg #[.int .i64 x0, .int .i64 x1, .int .i64 x2]] w (WpR B (nB + 2) (wrk p 11 ib x0 x1 x2 n cs) w) := by
  have hmx : Tryz.prog.follows .mixedOrders = true := by kernel_rfl
  have HP := hid (woP_of p R b B nB aL nL cL 11 ia ib ic x0 x1 x2 n cs w hR hM hp)
  obtain ⟨W0, hW0⟩ : ∃ W0, W0 = (w.alloc (.cells #[.int .i64 11, .int .i64 ia, .int .i64 ib, .int .i64 ic] 45)).alloc (.cells #[.int .i64 x0, .int .i64 x1, .int .i64 x2] 64) := ⟨_, rfl⟩
  rw [← hW0] at HP
  have hpc := HP.out.hp
  have hbd : Below w.heap.size w W0.drew := HP.out.bel.drew
  have hRd : RnAt W0.drew R b B aL nL cL n := HP.out.rn
  have hMd : MapAt W0.drew B nB cs := HP.out.mp
  have c0 : W0.cell? ⟨R, 0, none⟩ = some (.pointer (some ⟨b, 0, none⟩)) := HP.out.rn.cell (i := 0) (by decide)
  have c3 : W0.cell? ⟨R, 3, none⟩ = some (.int .i64 n.pc) := HP.out.rn.cell (i := 3) (by decide)
  have c4 : W0.cell? ⟨R, 4, none⟩ = some (.int .i64 n.fp) := HP.out.rn.cell (i := 4) (by decide)
  have c6 : W0.cell? ⟨R, 6, none⟩ = some (.int .i64 n.rv) := HP.out.rn.cell (i := 6) (by decide)
  have j2 : W0.cell? ⟨w.heap.size, 2, none⟩ = some (.int .i64 ib) := by simp [World.cell?, HP.out.i]
  have a0 : W0.cell? ⟨w.heap.size + 1, 0, none⟩ = some (.int .i64 x0) := by simp [World.cell?, HP.out.r]
  have a1 : W0.cell? ⟨w.heap.size + 1, 1, none⟩ = some (.int .i64 x1) := by simp [World.cell?, HP.out.r]
  have a2 : W0.cell? ⟨w.heap.size + 1, 2, none⟩ = some (.int .i64 x2) := by simp [World.cell?, HP.out.r]
  have HG : Hid (w.grownBy W0.drew (some B)) := grB hbd
  have HBD := hid hbd
  have HNB := hid hnB

  by_cases t0 : 0 ≤ finz cs x0
  · by_cases t1 : 0 ≤ finz cs x1
    · by_cases t2 : 0 ≤ finz cs x2
      · have HL0 := hid (plook_yes R b B nB aL nL cL n cs x0 W0 HP.out.rn HP.out.mp hx.1 t0)
        have HL1 := hid (plook_yes R b B nB aL nL cL n cs x1 W0 HP.out.rn HP.out.mp hx.2.1 t1)
        have HL2 := hid (plook_yes R b B nB aL nL cL n cs x2 W0 HP.out.rn HP.out.mp hx.2.2 t2)
        have HE : Hid (WpR B (nB + 2) (wrk p 11 ib x0 x1 x2 n cs) w (.returned (.tuple #[])) W0) := by
          have : wrk p 11 ib x0 x1 x2 n cs = (0, cs) := by unfold wrk; simp [t0, t1, t2]
          rw [Hid, this]
          exact ⟨grB HP.out.bel, .inl ⟨rfl, rfl, HP.out.mp.mono (by omega)⟩⟩
        generalize cvl cs x0 = v0 at *
        generalize cvl cs x1 = v1 at *
        generalize cvl cs x2 = v2 at *
        clear hRd hMd hbd hR hM hp hx t0 t1 t2
        go_enter Tryz.func79, Tryz.ntmps79
        go_wp2_with fail
        rw [← hW0]
        clear hW0
        refine HL0.out.mono ?_
        rintro e w2 ⟨rfl, hw2⟩
        rw [hw2]
        clear hw2 w2
        go_wp2_with fail
        refine HL1.out.mono ?_
        rintro e w2 ⟨rfl, hw2⟩
        rw [hw2]
        clear hw2 w2
        go_wp2_with fail
        refine HL2.out.mono ?_
        rintro e w2 ⟨rfl, hw2⟩
        rw [hw2]
        clear hw2 w2
        go_wp2_with fail
        go_end0
        exact HE.out
      · have HL0 := hid (plook_yes R b B nB aL nL cL n cs x0 W0 HP.out.rn HP.out.mp hx.1 t0)
        have HL1 := hid (plook_yes R b B nB aL nL cL n cs x1 W0 HP.out.rn HP.out.mp hx.2.1 t1)
        have HL2 := hid (plook_no R b B nB aL nL cL n cs x2 W0 HP.out.rn HP.out.mp hx.2.2 t2)
        have HW : Hid ((wrk p 11 ib x0 x1 x2 n cs).1 = 10) := by unfold Hid wrk; simp [t0, t1, t2]
        generalize cvl cs x0 = v0 at *
        generalize cvl cs x1 = v1 at *
        clear hRd hMd hbd hR hM hp hx t0 t1 t2
        go_enter Tryz.func79, Tryz.ntmps79
        go_wp2_with fail
        rw [← hW0]
        clear hW0
        refine HL0.out.mono ?_
        rintro e w2 ⟨rfl, hw2⟩
        rw [hw2]
        clear hw2 w2
        go_wp2_with fail
        refine HL1.out.mono ?_
        rintro e w2 ⟨rfl, hw2⟩
        rw [hw2]
        clear hw2 w2
        go_wp2_with fail
        refine HL2.out.mono ?_
        rintro e w2 ⟨rfl, hw2⟩
        rw [hw2]
        exact ⟨rfl, grB HP.out.bel, .inr (.inr ⟨HW.out, rfl⟩)⟩
    · have HL0 := hid (plook_yes R b B nB aL nL cL n cs x0 W0 HP.out.rn HP.out.mp hx.1 t0)
      have HL1 := hid (plook_no R b B nB aL nL cL n cs x1 W0 HP.out.rn HP.out.mp hx.2.1 t1)
      have HW : Hid ((wrk p 11 ib x0 x1 x2 n cs).1 = 10) := by unfold Hid wrk; simp [t0, t1]
      generalize cvl cs x0 = v0 at *
      clear hRd hMd hbd hR hM hp hx t0 t1
      go_enter Tryz.func79, Tryz.ntmps79
      go_wp2_with fail
      rw [← hW0]
      clear hW0
      refine HL0.out.mono ?_
      rintro e w2 ⟨rfl, hw2⟩
      rw [hw2]
      clear hw2 w2
      go_wp2_with fail
      refine HL1.out.mono ?_
      rintro e w2 ⟨rfl, hw2⟩
      rw [hw2]
      exact ⟨rfl, grB HP.out.bel, .inr (.inr ⟨HW.out, rfl⟩)⟩
  · have HL0 := hid (plook_no R b B nB aL nL cL n cs x0 W0 HP.out.rn HP.out.mp hx.1 t0)
    have HW : Hid ((wrk p 11 ib x0 x1 x2 n cs).1 = 10) := by unfold Hid wrk; simp [t0]
    skip
    clear hRd hMd hbd hR hM hp hx t0
    go_enter Tryz.func79, Tryz.ntmps79
    go_wp2_with fail
    rw [← hW0]
    clear hW0
    refine HL0.out.mono ?_
    rintro e w2 ⟨rfl, hw2⟩
    rw [hw2]
    exact ⟨rfl, grB HP.out.bel, .inr (.inr ⟨HW.out, rfl⟩)⟩

set_option maxRecDepth 100000 in
set_option maxHeartbeats 1000000 in
theorem pwork_8 (p R b B nB : Nat) (aL : Option Addr) (nL cL : Nat) (ia ib ic x0 x1 x2 : Int) (n : Rg) (cs : List (Int × Int)) (w : World) (hR : RnAt w R b B aL nL cL n) (hM : MapAt w B nB cs) (hp : w.cell? ⟨b, 0, none⟩ = some (.int .i64 p)) (hnB : nB + 2 < maxLen) :
    Calls Tryz.prog 79 #[.pointer (some ⟨R, 0, none⟩), .agg #[.int .i64 8, .int .i64 ia, .int .i64 ib, .int .i64 ic], .agg #[.int .i64 x0, .int .i64 x1, .int .i64 x2]] w (WpR B (nB + 2) (wrk p 8 ib x0 x1 x2 n cs) w) := by
  have hmx : Tryz.prog.follows .mixedOrders = true := by kernel_rfl
  have HP := hid (woP_of p R b B nB aL nL cL 8 ia ib ic x0 x1 x2 n cs w hR hM hp)
  obtain ⟨W0, hW0⟩ : ∃ W0, W0 = (w.alloc (.cells #[.int .i64 8, .int .i64 ia, .int .i64 ib, .int .i64 ic] 45)).alloc (.cells #[.int .i64 x0, .int .i64 x1, .int .i64 x2] 64) := ⟨_, rfl⟩
  rw [← hW0] at HP
  have hpc := HP.out.hp
  have hbd : Below w.heap.size w W0.drew := HP.out.bel.drew
  have hRd : RnAt W0.drew R b B aL nL cL n := HP.out.rn
  have hMd : MapAt W0.drew B nB cs := HP.out.mp
  have c0 : W0.cell? ⟨R, 0, none⟩ = some (.pointer (some ⟨b, 0, none⟩)) := HP.out.rn.cell (i := 0) (by decide)
  have c3 : W0.cell? ⟨R, 3, none⟩ = some (.int .i64 n.pc) := HP.out.rn.cell (i := 3) (by decide)
  have c4 : W0.cell? ⟨R, 4, none⟩ = some (.int .i64 n.fp) := HP.out.rn.cell (i := 4) (by decide)
  have c6 : W0.cell? ⟨R, 6, none⟩ = some (.int .i64 n.rv) := HP.out.rn.cell (i := 6) (by decide)
  have j2 : W0.cell? ⟨w.heap.size, 2, none⟩ = some (.int .i64 ib) := by simp [World.cell?, HP.out.i]
  have a0 : W0.cell? ⟨w.heap.size + 1, 0, none⟩ = some (.int .i64 x0) := by simp [World.cell?, HP.out.r]
  have a1 : W0.cell? ⟨w.heap.size + 1, 1, none⟩ = some (.int .i64 x1) := by simp [World.cell?, HP.out.r]
  have a2 : W0.cell? ⟨w.heap.size + 1, 2, none⟩ = some (.int .i64 x2) := by simp [World.cell?, HP.out.r]
  have HG : Hid (w.grownBy W0.drew (some B)) := grB hbd
  have HBD := hid hbd
  have HNB := hid hnB

  have HE : Hid (WpR B (nB + 2) (wrk p 8 ib x0 x1 x2 n cs) w (.returned (.tuple #[])) W0) := by
    have : wrk p 8 ib x0 x1 x2 n cs = (0, cs) := by unfold wrk; simp
    rw [Hid, this]
    exact ⟨grB HP.out.bel, .inl ⟨rfl, rfl, HP.out.mp.mono (by omega)⟩⟩
  clear hRd hMd hbd hR hM hp
  go_enter Tryz.func79, Tryz.ntmps79
  go_wp2_with fail
  rw [← hW0]
  clear hW0
  go_end0
  exact HE.out

set_option maxRecDepth 100000 in
set_option maxHeartbeats 1000000 in
theorem pwork_x (p R b B nB : Nat) (aL : Option Addr) (nL cL : Nat) (op ia ib ic x0 x1 x2 : Int) (n : Rg) (cs : List (Int × Int)) (w : World) (hR : RnAt w R b B aL nL cL n) (hM : MapAt w B nB cs) (hp : w.cell? ⟨b, 0, none⟩ = some (.int .i64 p)) (hnB : nB + 2 < maxLen) (hno : op ≠ 0 ∧ op ≠ 1 ∧ op ≠ 2 ∧ op ≠ 3 ∧ op ≠ 4 ∧ op ≠ 5 ∧ op ≠ 6 ∧ op ≠ 7 ∧ op ≠ 8 ∧ op ≠ 9 ∧ op ≠ 10 ∧ op ≠ 11 ∧ op ≠ 12 ∧ op ≠ 13) :
    Calls Tryz.prog 79 #[.pointer (some ⟨R, 0, none⟩), .agg #[.int .i64 op, .int .i64 ia, .int .i64 ib, .int .i64 ic], .agg #[.int .i64 x0, .int .i64 x1, .int .i64 x2]] w (WpR B (nB + 2) (wrk p op ib x0 x1 x2 n cs) w) := by
  have hmx : Tryz.prog.follows .mixedOrders = true := by kernel_rfl
  have HP := hid (woP_of p R b B nB aL nL cL op ia ib ic x0 x1 x2 n cs w hR hM hp)
  obtain ⟨W0, hW0⟩ : ∃ W0, W0 = (w.alloc (.cells #[.int .i64 op, .int .i64 ia, .int .i64 ib, .int .i64 ic] 45)).alloc (.cells #[.int .i64 x0, .int .i64 x1, .int .i64 x2] 64) := ⟨_, rfl⟩
  rw [← hW0] at HP
  have hpc := HP.out.hp
  have hbd : Below w.heap.size w W0.drew := HP.out.bel.drew
  have hRd : RnAt W0.drew R b B aL nL cL n := HP.out.rn
  have hMd : MapAt W0.drew B nB cs := HP.out.mp
  have c0 : W0.cell? ⟨R, 0, none⟩ = some (.pointer (some ⟨b, 0, none⟩)) := HP.out.rn.cell (i := 0) (by decide)
  have c3 : W0.cell? ⟨R, 3, none⟩ = some (.int .i64 n.pc) := HP.out.rn.cell (i := 3) (by decide)
  have c4 : W0.cell? ⟨R, 4, none⟩ = some (.int .i64 n.fp) := HP.out.rn.cell (i := 4) (by decide)
  have c6 : W0.cell? ⟨R, 6, none⟩ = some (.int .i64 n.rv) := HP.out.rn.cell (i := 6) (by decide)
  have j2 : W0.cell? ⟨w.heap.size, 2, none⟩ = some (.int .i64 ib) := by simp [World.cell?, HP.out.i]
  have a0 : W0.cell? ⟨w.heap.size + 1, 0, none⟩ = some (.int .i64 x0) := by simp [World.cell?, HP.out.r]
  have a1 : W0.cell? ⟨w.heap.size + 1, 1, none⟩ = some (.int .i64 x1) := by simp [World.cell?, HP.out.r]
  have a2 : W0.cell? ⟨w.heap.size + 1, 2, none⟩ = some (.int .i64 x2) := by simp [World.cell?, HP.out.r]
  have HG : Hid (w.grownBy W0.drew (some B)) := grB hbd
  have HBD := hid hbd
  have HNB := hid hnB

  have HE : Hid (WpR B (nB + 2) (wrk p op ib x0 x1 x2 n cs) w (pnc 88) W0) := by
    have : wrk p op ib x0 x1 x2 n cs = (7, cs) := by unfold wrk; simp [hno]
    rw [Hid, this]
    exact ⟨grB HP.out.bel, .inr (.inl ⟨rfl, rfl⟩)⟩
  have q0 : (op == 0) = false := by rw [beq_eq_false_iff_ne]; omega
  have q1 : (op == 1) = false := by rw [beq_eq_false_iff_ne]; omega
  have q2 : (op == 2) = false := by rw [beq_eq_false_iff_ne]; omega
  have q3 : (op == 3) = false := by rw [beq_eq_false_iff_ne]; omega
  have q4 : (op == 4) = false := by rw [beq_eq_false_iff_ne]; omega
  have q5 : (op == 5) = false := by rw [beq_eq_false_iff_ne]; omega
  have q6 : (op == 6) = false := by rw [beq_eq_false_iff_ne]; omega
  have q7 : (op == 7) = false := by rw [beq_eq_false_iff_ne]; omega
  have q8 : (op == 8) = false := by rw [beq_eq_false_iff_ne]; omega
  have q9 : (op == 9) = false := by rw [beq_eq_false_iff_ne]; omega
  have q10 : (op == 10) = false := by rw [beq_eq_false_iff_ne]; omega
  have q11 : (op == 11) = false := by rw [beq_eq_false_iff_ne]; omega
  have q12 : (op == 12) = false := by rw [beq_eq_false_iff_ne]; omega
  have q13 : (op == 13) = false := by rw [beq_eq_false_iff_ne]; omega
  clear hRd hMd hbd hR hM hp hno hnB
  go_enter Tryz.func79, Tryz.ntmps79
  go_wp2_with fail
  rw [← hW0]
  clear hW0
  exact ⟨rfl, HE.out⟩

end Go.Proofs.YtdpdmgmeieijaaaGreatDoor

namespace Go.Proofs.YtdpdmgmeieijaaaGreatDoor
open Go.RowKit Go.Maps

set_option maxRecDepth 100000 in
set_option maxHeartbeats 1000000 in
theorem pwork_4 (p R b B nB : Nat) (aL : Option Addr) (nL cL : Nat) (ia ib ic x0 x1 x2 : Int) (n : Rg) (cs : List (Int × Int)) (w : World) (h3 : 3 ≤ p) (h4 : p ≤ 2147483647) (hpr : Num.Prime p) (hR : RnAt w R b B aL nL cL n) (hM : MapAt w B nB cs) (hp : w.cell? ⟨b, 0, none⟩ = some (.int .i64 p)) (hnB : nB + 2 < maxLen) (hx : I64 x0 ∧ I64 x1 ∧ I64 x2) (hcs : ∀ x, 0 ≤ cvl cs x ∧ cvl cs x < p) :
    Calls Tryz.prog 79 #[.pointer (some ⟨R, 0, none⟩), .agg #[.int .i64 4, .int .i64 ia, .int .i64 ib, .int .i64 ic], .agg #[.int .i64 x0, .int .i64 x1, .int .i64 x2]] w (WpR B (nB + 2) (wrk p 4 ib x0 x1 x2 n cs) w) := by
  have hmx : Tryz.prog.follows .mixedOrders = true := by kernel_rfl
  have HP := hid (woP_of p R b B nB aL nL cL 4 ia ib ic x0 x1 x2 n cs w hR hM hp)
  obtain ⟨W0, hW0⟩ : ∃ W0, W0 = (w.alloc (.cells #[.int .i64 4, .int .i64 ia, .int .i64 ib, .int .i64 ic] 45)).alloc (.cells #[.int .i64 x0, .int .i64 x1, .int .i64 x2] 64) := ⟨_, rfl⟩
  rw [← hW0] at HP
  have hpc := HP.out.hp
  have hbd : Below w.heap.size w W0.drew := HP.out.bel.drew
  have hRd : RnAt W0.drew R b B aL nL cL n := HP.out.rn
  have hMd : MapAt W0.drew B nB cs := HP.out.mp
  have c0 : W0.cell? ⟨R, 0, none⟩ = some (.pointer (some ⟨b, 0, none⟩)) := HP.out.rn.cell (i := 0) (by decide)
  have c3 : W0.cell? ⟨R, 3, none⟩ = some (.int .i64 n.pc) := HP.out.rn.cell (i := 3) (by decide)
  have c4 : W0.cell? ⟨R, 4, none⟩ = some (.int .i64 n.fp) := HP.out.rn.cell (i := 4) (by decide)
  have c6 : W0.cell? ⟨R, 6, none⟩ = some (.int .i64 n.rv) := HP.out.rn.cell (i := 6) (by decide)
  have j2 : W0.cell? ⟨w.heap.size, 2, none⟩ = some (.int .i64 ib) := by simp [World.cell?, HP.out.i]
  have a0 : W0.cell? ⟨w.heap.size + 1, 0, none⟩ = some (.int .i64 x0) := by simp [World.cell?, HP.out.r]
  have a1 : W0.cell? ⟨w.heap.size + 1, 1, none⟩ = some (.int .i64 x1) := by simp [World.cell?, HP.out.r]
  have a2 : W0.cell? ⟨w.heap.size + 1, 2, none⟩ = some (.int .i64 x2) := by simp [World.cell?, HP.out.r]
  have HG : Hid (w.grownBy W0.drew (some B)) := grB hbd
  have HBD := hid hbd
  have HNB := hid hnB

  by_cases t0 : 0 ≤ finz cs x0
  · by_cases t1 : 0 ≤ finz cs x1
    · by_cases tv : cvl cs x1 = 0
      · have HL0 := hid (plook_yes R b B nB aL nL cL n cs x0 W0.drew hRd hMd hx.1 t0)
        have HL1 := hid (plook_yes R b B nB aL nL cL n cs x1 W0.drew hRd hMd hx.2.1 t1)
        have hq : (cvl cs x1 != 0) = false := by simp [tv]
        have HT := hid (pmust_no W0.drew)
        have HE : Hid (WpR B (nB + 2) (wrk p 4 ib x0 x1 x2 n cs) w (pnc 88) W0.drew) := by
          have : wrk p 4 ib x0 x1 x2 n cs = (7, cs) := by unfold wrk; simp [t0, t1, tv]
          rw [Hid, this]
          exact ⟨HG.out, .inr (.inl ⟨rfl, rfl⟩)⟩
        clear tv
        generalize cvl cs x0 = v0 at *
        generalize cvl cs x1 = v1 at *
        clear hRd hMd hbd hR hM hp hx hcs t0 t1 h3 h4 hpr
        go_enter Tryz.func79, Tryz.ntmps79
        go_wp2_with fail
        rw [← hW0]
        clear hW0
        refine wp_region_still_tail 8 hmx (by kernel_rfl) ?_
        simp only [List.take_succ_cons, List.take_zero, List.drop_succ_cons, List.drop_zero]
        repeat still_step
        still_call HL0.out
        repeat still_step
        still_call HL1.out
        repeat still_step
        refine wpStill_nil ?_
        go_wp2_with fail
        refine HT.out.mono ?_
        rintro e w2 ⟨rfl, rfl⟩
        exact ⟨rfl, HE.out⟩
      · have HL0 := hid (plook_yes R b B nB aL nL cL n cs x0 W0.drew hRd hMd hx.1 t0)
        have HL1 := hid (plook_yes R b B nB aL nL cL n cs x1 W0.drew hRd hMd hx.2.1 t1)
        have hq : (cvl cs x1 != 0) = true := by simp [tv]
        have HM := hid (pmust_yes W0.drew)
        have b0 := hcs x0
        have b1 := hcs x1
        have HOP : Hid (Calls Tryz.prog 108 #[.pointer (some ⟨b, 0, none⟩), .int .i64 (cvl cs x0), .int .i64 (cvl cs x1)] W0.drew.drew fun e w' => e = .returned (.int .i64 (rkn p 4 (cvl cs x0) (cvl cs x1))) ∧ w' = W0.drew.drew) := by
          have hz : cvl cs x0 * (invn p (cvl cs x1) : Int) % (p : Int) = rkn p 4 (cvl cs x0) (cvl cs x1) := by simp [rkn]
          rw [← hz]
          exact div_any p b _ _ W0.drew.drew hpr h3 h4 hpc (by omega) (by omega) (by omega) (by omega)
        have HT := hid (ptell_any R b B nB aL nL cL n cs x2 (rkn p 4 (cvl cs x0) (cvl cs x1)) W0.drew.drew hRd hMd (by omega) hx.2.2 (rkn_fit h3 h4 _ _ _))
        have HW : Hid (wrk p 4 ib x0 x1 x2 n cs = tel cs x2 (rkn p 4 (cvl cs x0) (cvl cs x1))) := by unfold Hid wrk; simp [t0, t1, tv]
        have HBE : Hid (Below w.heap.size w W0.drew.drew) := hbd.drew
        clear tv
        generalize rkn p 4 (cvl cs x0) (cvl cs x1) = z at *
        generalize cvl cs x0 = v0 at *
        generalize cvl cs x1 = v1 at *
        clear hRd hMd hbd hR hM hp hx hcs b0 b1 t0 t1 h3 h4 hpr
        go_enter Tryz.func79, Tryz.ntmps79
        go_wp2_with fail
        rw [← hW0]
        clear hW0
        refine wp_region_still_tail 8 hmx (by kernel_rfl) ?_
        simp only [List.take_succ_cons, List.take_zero, List.drop_succ_cons, List.drop_zero]
        repeat still_step
        still_call HL0.out
        repeat still_step
        still_call HL1.out
        repeat still_step
        refine wpStill_nil ?_
        go_wp2_with fail
        refine HM.out.mono ?_
        rintro e w1 ⟨rfl, hw1⟩
        have d0 : w1.cell? ⟨R, 0, none⟩ = some (.pointer (some ⟨b, 0, none⟩)) := by rw [hw1]; exact c0
        have e2 : w1.cell? ⟨w.heap.size + 1, 2, none⟩ = some (.int .i64 x2) := by rw [hw1]; exact a2
        rw [← hw1] at HOP HT HBE
        clear hw1 HBD HG HL0 HL1 HM
        go_wp2_with fail
        refine wp_region_still_tail 10 hmx (by kernel_rfl) ?_
        simp only [List.take_succ_cons, List.take_zero, List.drop_succ_cons, List.drop_zero]
        repeat still_step
        still_call HOP.out
        repeat still_step
        refine wpStill_nil ?_
        go_wp2_with fail
        refine HT.out.mono ?_
        rintro e w2 ⟨hg2, ⟨h0, rfl, hm2⟩ | ⟨h7, rfl⟩ | ⟨h10, rfl⟩⟩
        · have HE : Hid (WpR B (nB + 2) (wrk p 4 ib x0 x1 x2 n cs) w (.returned (.tuple #[])) w2) := by
            rw [HW.out]
            exact ⟨grW HBE.out hg2, .inl ⟨h0, rfl, hm2.mono (by omega)⟩⟩
          clear hg2 h0 hm2 HT
          go_wp2_with fail
          go_end0
          exact HE.out
        · exact ⟨rfl, by rw [HW.out]; exact ⟨grW HBE.out hg2, .inr (.inl ⟨h7, rfl⟩)⟩⟩
        · exact ⟨rfl, by rw [HW.out]; exact ⟨grW HBE.out hg2, .inr (.inr ⟨h10, rfl⟩)⟩⟩
    · have HL0 := hid (plook_yes R b B nB aL nL cL n cs x0 W0.drew hRd hMd hx.1 t0)
      have HL1 := hid (plook_no R b B nB aL nL cL n cs x1 W0.drew hRd hMd hx.2.1 t1)
      have HW : Hid ((wrk p 4 ib x0 x1 x2 n cs).1 = 10) := by unfold Hid wrk; simp [t0, t1]
      clear hRd hMd hbd hR hM hp hx hcs h3 h4 hpr t0 t1
      go_enter Tryz.func79, Tryz.ntmps79
      go_wp2_with fail
      rw [← hW0]
      clear hW0
      refine wp_region_held_drew (S := (fun W => W = W0.drew)) (by kernel_rfl) rfl (fun hHeld => ?_)
      refine wpAnyH_takeW (i := 0) (v := .pointer (some ⟨R, 0, none⟩)) rfl (by kernel_rfl) (by kernel_rfl) (by kernel_rfl) (fun _ _ _ h => h) (by rfl) (fun W hC => by (subst hC; go_simp)) hHeld ?_
      simp only [Act.put, List.setIfInBounds_toArray, List.set_cons_zero, List.set_cons_succ]
      refine wpAnyH_takeW (i := 1) (v := .pointer (some ⟨w.heap.size + 1, 0, none⟩)) rfl (by kernel_rfl) (by kernel_rfl) (by kernel_rfl) (fun _ _ _ h => h) (by rfl) (fun W hC => by (subst hC; go_simp)) hHeld ?_
      simp only [Act.put, List.setIfInBounds_toArray, List.set_cons_zero, List.set_cons_succ]
      refine wpAnyH_takeW (i := 2) (v := .int .i64 x0) rfl (by kernel_rfl) (by kernel_rfl) (by kernel_rfl) (fun _ _ _ h => h) (by rfl) (fun W hC => by (subst hC; go_simp)) hHeld ?_
      simp only [Act.put, List.setIfInBounds_toArray, List.set_cons_zero, List.set_cons_succ]
      refine wpAnyH_takeW (i := 4) (v := .pointer (some ⟨R, 0, none⟩)) rfl (by kernel_rfl) (by kernel_rfl) (by kernel_rfl) (fun _ _ _ h => h) (by rfl) (fun W hC => by (subst hC; go_simp)) hHeld ?_
      simp only [Act.put, List.setIfInBounds_toArray, List.set_cons_zero, List.set_cons_succ]
      refine wpAnyH_takeW (i := 5) (v := .pointer (some ⟨w.heap.size + 1, 1, none⟩)) rfl (by kernel_rfl) (by kernel_rfl) (by kernel_rfl) (fun _ _ _ h => h) (by rfl) (fun W hC => by (subst hC; go_simp)) hHeld ?_
      simp only [Act.put, List.setIfInBounds_toArray, List.set_cons_zero, List.set_cons_succ]
      refine wpAnyH_takeW (i := 6) (v := .int .i64 x1) rfl (by kernel_rfl) (by kernel_rfl) (by kernel_rfl) (fun _ _ _ h => h) (by rfl) (fun W hC => by (subst hC; go_simp)) hHeld ?_
      simp only [Act.put, List.setIfInBounds_toArray, List.set_cons_zero, List.set_cons_succ]
      refine wpAnyH_ready (rs := [3]) (by kernel_rfl) (by simp) ?_
      refine AllReadyH.consW rfl (fun K hK => ?_) AllReadyH.nil
      go_simp
      refine HL0.out.mono ?_
      rintro e w2 ⟨rfl, rfl⟩
      refine hK.out _ _ rfl (fun hHeld => ?_)
      clear hK K
      refine wpAnyH_ready (rs := [7]) (by kernel_rfl) (by simp) ?_
      refine AllReadyH.consW rfl (fun K hK => ?_) AllReadyH.nil
      go_simp
      refine HL1.out.mono ?_
      rintro e w2 ⟨rfl, rfl⟩
      exact ⟨rfl, HG.out, .inr (.inr ⟨HW.out, rfl⟩)⟩
  · have HL0 := hid (plook_no R b B nB aL nL cL n cs x0 W0.drew hRd hMd hx.1 t0)
    have HW : Hid ((wrk p 4 ib x0 x1 x2 n cs).1 = 10) := by unfold Hid wrk; simp [t0]
    clear hRd hMd hbd hR hM hp hx hcs h3 h4 hpr t0
    go_enter Tryz.func79, Tryz.ntmps79
    go_wp2_with fail
    rw [← hW0]
    clear hW0
    refine wp_region_held_drew (S := (fun W => W = W0.drew)) (by kernel_rfl) rfl (fun hHeld => ?_)
    refine wpAnyH_takeW (i := 0) (v := .pointer (some ⟨R, 0, none⟩)) rfl (by kernel_rfl) (by kernel_rfl) (by kernel_rfl) (fun _ _ _ h => h) (by rfl) (fun W hC => by (subst hC; go_simp)) hHeld ?_
    simp only [Act.put, List.setIfInBounds_toArray, List.set_cons_zero, List.set_cons_succ]
    refine wpAnyH_takeW (i := 1) (v := .pointer (some ⟨w.heap.size + 1, 0, none⟩)) rfl (by kernel_rfl) (by kernel_rfl) (by kernel_rfl) (fun _ _ _ h => h) (by rfl) (fun W hC => by (subst hC; go_simp)) hHeld ?_
    simp only [Act.put, List.setIfInBounds_toArray, List.set_cons_zero, List.set_cons_succ]
    refine wpAnyH_takeW (i := 2) (v := .int .i64 x0) rfl (by kernel_rfl) (by kernel_rfl) (by kernel_rfl) (fun _ _ _ h => h) (by rfl) (fun W hC => by (subst hC; go_simp)) hHeld ?_
    simp only [Act.put, List.setIfInBounds_toArray, List.set_cons_zero, List.set_cons_succ]
    refine wpAnyH_takeW (i := 4) (v := .pointer (some ⟨R, 0, none⟩)) rfl (by kernel_rfl) (by kernel_rfl) (by kernel_rfl) (fun _ _ _ h => h) (by rfl) (fun W hC => by (subst hC; go_simp)) hHeld ?_
    simp only [Act.put, List.setIfInBounds_toArray, List.set_cons_zero, List.set_cons_succ]
    refine wpAnyH_takeW (i := 5) (v := .pointer (some ⟨w.heap.size + 1, 1, none⟩)) rfl (by kernel_rfl) (by kernel_rfl) (by kernel_rfl) (fun _ _ _ h => h) (by rfl) (fun W hC => by (subst hC; go_simp)) hHeld ?_
    simp only [Act.put, List.setIfInBounds_toArray, List.set_cons_zero, List.set_cons_succ]
    refine wpAnyH_takeW (i := 6) (v := .int .i64 x1) rfl (by kernel_rfl) (by kernel_rfl) (by kernel_rfl) (fun _ _ _ h => h) (by rfl) (fun W hC => by (subst hC; go_simp)) hHeld ?_
    simp only [Act.put, List.setIfInBounds_toArray, List.set_cons_zero, List.set_cons_succ]
    refine wpAnyH_ready (rs := [3]) (by kernel_rfl) (by simp) ?_
    refine AllReadyH.consW rfl (fun K hK => ?_) AllReadyH.nil
    go_simp
    refine HL0.out.mono ?_
    rintro e w2 ⟨rfl, rfl⟩
    exact ⟨rfl, HG.out, .inr (.inr ⟨HW.out, rfl⟩)⟩

end Go.Proofs.YtdpdmgmeieijaaaGreatDoor

namespace Go.Proofs.YtdpdmgmeieijaaaGreatDoor
open Go.RowKit Go.Maps

set_option maxRecDepth 100000 in
set_option maxHeartbeats 1000000 in
theorem pwork_10 (p R b B nB : Nat) (aL : Option Addr) (nL cL : Nat) (ia ib ic x0 x1 x2 : Int) (n : Rg) (cs : List (Int × Int)) (w : World) (h3 : 3 ≤ p) (h4 : p ≤ 2147483647) (hR : RnAt w R b B aL nL cL n) (hM : MapAt w B nB cs) (hp : w.cell? ⟨b, 0, none⟩ = some (.int .i64 p)) (hnB : nB + 2 < maxLen) (hx : I64 x0 ∧ I64 x1 ∧ I64 x2) (hn : I64 n.pc ∧ I64 n.fp) :
    Calls Tryz.prog 79 #[.pointer (some ⟨R, 0, none⟩), .agg #[.int .i64 10, .int .i64 ia, .int .i64 ib, .int .i64 ic], .agg #[.int .i64 x0, .int .i64 x1, .int .i64 x2]] w (WpR B (nB + 2) (wrk p 10 ib x0 x1 x2 n cs) w) := by
  have hmx : Tryz.prog.follows .mixedOrders = true := by kernel_rfl
  have HP := hid (woP_of p R b B nB aL nL cL 10 ia ib ic x0 x1 x2 n cs w hR hM hp)
  obtain ⟨W0, hW0⟩ : ∃ W0, W0 = (w.alloc (.cells #[.int .i64 10, .int .i64 ia, .int .i64 ib, .int .i64 ic] 45)).alloc (.cells #[.int .i64 x0, .int .i64 x1, .int .i64 x2] 64) := ⟨_, rfl⟩
  rw [← hW0] at HP
  have hpc := HP.out.hp
  have hbd : Below w.heap.size w W0.drew := HP.out.bel.drew
  have hRd : RnAt W0.drew R b B aL nL cL n := HP.out.rn
  have hMd : MapAt W0.drew B nB cs := HP.out.mp
  have c0 : W0.cell? ⟨R, 0, none⟩ = some (.pointer (some ⟨b, 0, none⟩)) := HP.out.rn.cell (i := 0) (by decide)
  have c3 : W0.cell? ⟨R, 3, none⟩ = some (.int .i64 n.pc) := HP.out.rn.cell (i := 3) (by decide)
  have c4 : W0.cell? ⟨R, 4, none⟩ = some (.int .i64 n.fp) := HP.out.rn.cell (i := 4) (by decide)
  have c6 : W0.cell? ⟨R, 6, none⟩ = some (.int .i64 n.rv) := HP.out.rn.cell (i := 6) (by decide)
  have j2 : W0.cell? ⟨w.heap.size, 2, none⟩ = some (.int .i64 ib) := by simp [World.cell?, HP.out.i]
  have a0 : W0.cell? ⟨w.heap.size + 1, 0, none⟩ = some (.int .i64 x0) := by simp [World.cell?, HP.out.r]
  have a1 : W0.cell? ⟨w.heap.size + 1, 1, none⟩ = some (.int .i64 x1) := by simp [World.cell?, HP.out.r]
  have a2 : W0.cell? ⟨w.heap.size + 1, 2, none⟩ = some (.int .i64 x2) := by simp [World.cell?, HP.out.r]
  have HG : Hid (w.grownBy W0.drew (some B)) := grB hbd
  have HBD := hid hbd
  have HNB := hid hnB

  have hzb : I64 ((n.pc + 1) % (p : Int)) := by have := emod_bounds (n.pc + 1) p h3; exact ⟨by omega, by omega⟩
  have HT := hid (ptell_any R b B nB aL nL cL n cs x0 n.fp W0.drew hRd hMd (by omega) hx.1 hn.2)
  have HK : Hid (∀ W : World, W0.drew.grownBy W (some B) → W.cell? ⟨R, 0, none⟩ = some (.pointer (some ⟨b, 0, none⟩)) ∧ W.cell? ⟨R, 3, none⟩ = some (.int .i64 n.pc) ∧ W.cell? ⟨w.heap.size + 1, 1, none⟩ = some (.int .i64 x1) ∧ W.cell? ⟨b, 0, none⟩ = some (.int .i64 p) ∧ RnAt W R b B aL nL cL n) := fun W g => ⟨cell_told hMd g c0, cell_told hMd g c3, cell_told hMd g a1, cell_told hMd g hpc, hRd.told hMd g⟩
  have HA : Hid (∀ W : World, W.cell? ⟨b, 0, none⟩ = some (.int .i64 p) → Calls Tryz.prog 52 #[.pointer (some ⟨b, 0, none⟩), .int .i64 n.pc, .int .i64 1] W fun e w' => e = .returned (.int .i64 ((n.pc + 1) % (p : Int))) ∧ w' = W) := fun W h => add_any p b _ _ W h3 h4 h hn.1.1 hn.1.2 (by decide) (by decide)
  have HTT : Hid (∀ W : World, RnAt W R b B aL nL cL n → MapAt W B (nB + 1) (tel cs x0 n.fp).2 → Calls Tryz.prog 106 #[.pointer (some ⟨R, 0, none⟩), .int .i64 x1, .int .i64 ((n.pc + 1) % (p : Int))] W (WpR B (nB + 1 + 1) (tel (tel cs x0 n.fp).2 x1 ((n.pc + 1) % (p : Int))) W)) := fun W hr hm => ptell_any R b B (nB + 1) aL nL cL n _ x1 _ W hr hm (by omega) hx.2.1 hzb
  have HW1 : Hid ((tel cs x0 n.fp).1 ≠ 0 → wrk p 10 ib x0 x1 x2 n cs = tel cs x0 n.fp) := fun h => by unfold wrk; simp [h]
  have HW2 : Hid ((tel cs x0 n.fp).1 = 0 → wrk p 10 ib x0 x1 x2 n cs = tel (tel cs x0 n.fp).2 x1 ((n.pc + 1) % (p : Int))) := fun h => by unfold wrk; simp [h]
  generalize (n.pc + 1) % (p : Int) = z at *
  clear hRd hMd hbd hR hM hp hx hn hzb h3 h4
  go_enter Tryz.func79, Tryz.ntmps79
  go_wp2_with fail
  rw [← hW0]
  clear hW0
  refine wp_region_still_tail 7 hmx (by kernel_rfl) ?_
  simp only [List.take_succ_cons, List.take_zero, List.drop_succ_cons, List.drop_zero]
  repeat still_step
  refine wpStill_nil ?_
  go_wp2_with fail
  refine HT.out.mono ?_
  rintro e w2 ⟨hg2, ⟨h0, rfl, hm2⟩ | ⟨h7, rfl⟩ | ⟨h10, rfl⟩⟩
  · obtain ⟨d0, d3, f1, dp, dr⟩ := HK.out w2 hg2
    have HT2 := hid (HTT.out w2.drew dr hm2)
    have HA2 := hid (HA.out w2.drew dp)
    have HWW := hid (HW2.out h0)
    have HG2 : Hid (w.grownBy w2.drew (some B)) := by
      have := grW HBD.out hg2
      exact ⟨this.os, this.tape, this.output, this.size, this.block⟩
    clear hg2 h0 hm2 HT HK HA HTT HW1 HW2 dr c0 c3 c4 c6 j2 a0 a1 a2 hpc
    go_wp2_with fail
    refine wp_region_still_tail 12 hmx (by kernel_rfl) ?_
    simp only [List.take_succ_cons, List.take_zero, List.drop_succ_cons, List.drop_zero]
    repeat still_step
    still_call HA2.out
    repeat still_step
    refine wpStill_nil ?_
    go_wp2_with fail
    refine HT2.out.mono ?_
    rintro e w3 ⟨hg3, ⟨h0, rfl, hm3⟩ | ⟨h7, rfl⟩ | ⟨h10, rfl⟩⟩
    · have HE : Hid (WpR B (nB + 2) (wrk p 10 ib x0 x1 x2 n cs) w (.returned (.tuple #[])) w3) := by
        rw [HWW.out]
        exact ⟨HG2.out.trans hg3, .inl ⟨h0, rfl, hm3.mono (by omega)⟩⟩
      clear hg3 h0 hm3 HT2
      go_wp2_with fail
      go_end0
      exact HE.out
    · exact ⟨rfl, by rw [HWW.out]; exact ⟨HG2.out.trans hg3, .inr (.inl ⟨h7, rfl⟩)⟩⟩
    · exact ⟨rfl, by rw [HWW.out]; exact ⟨HG2.out.trans hg3, .inr (.inr ⟨h10, rfl⟩)⟩⟩
  · exact ⟨rfl, by rw [HW1.out (by rw [h7]; decide)]; exact ⟨grW HBD.out hg2, .inr (.inl ⟨h7, rfl⟩)⟩⟩
  · exact ⟨rfl, by rw [HW1.out (by rw [h10]; decide)]; exact ⟨grW HBD.out hg2, .inr (.inr ⟨h10, rfl⟩)⟩⟩

end Go.Proofs.YtdpdmgmeieijaaaGreatDoor

namespace Go.Proofs.YtdpdmgmeieijaaaGreatDoor
open Go.RowKit Go.Maps

theorem pcells_any (p b : Nat) (op ia ib ic fp ap : Int) (w : World) (h3 : 3 ≤ p) (h4 : p ≤ 2147483647) (hp : w.cell? ⟨b, 0, none⟩ = some (.int .i64 p)) (hb : I64 ia ∧ I64 ib ∧ I64 ic ∧ I64 fp ∧ I64 ap) :
    Calls Tryz.prog 78 #[.pointer (some ⟨b, 0, none⟩), .agg #[.int .i64 op, .int .i64 ia, .int .i64 ib, .int .i64 ic], .int .i64 fp, .int .i64 ap] w (CeR p op ia ib ic fp ap w) := by
  by_cases h0 : op = 0; · subst h0; exact pcells_0 p b ia ib ic fp ap w h3 h4 hp hb
  by_cases h1 : op = 1; · subst h1; exact pcells_1 p b ia ib ic fp ap w h3 h4 hp hb
  by_cases h2 : op = 2; · subst h2; exact pcells_2 p b ia ib ic fp ap w h3 h4 hp hb
  by_cases h3' : op = 3; · subst h3'; exact pcells_3 p b ia ib ic fp ap w h3 h4 hp hb
  by_cases h4' : op = 4; · subst h4'; exact pcells_4 p b ia ib ic fp ap w h3 h4 hp hb
  by_cases h5 : op = 5; · subst h5; exact pcells_5 p b ia ib ic fp ap w h3 h4 hp hb
  by_cases h6 : op = 6; · subst h6; exact pcells_6 p b ia ib ic fp ap w h3 h4 hp hb
  by_cases h7 : op = 7; · subst h7; exact pcells_7 p b ia ib ic fp ap w h3 h4 hp hb
  by_cases h8 : op = 8; · subst h8; exact pcells_8 p b ia ib ic fp ap w hp
  by_cases h9 : op = 9; · subst h9; exact pcells_9 p b ia ib ic fp ap w h3 h4 hp hb
  by_cases h10 : op = 10; · subst h10; exact pcells_10 p b ia ib ic fp ap w h3 h4 hp hb
  by_cases h11 : op = 11; · subst h11; exact pcells_11 p b ia ib ic fp ap w h3 h4 hp hb
  by_cases h12 : op = 12; · subst h12; exact pcells_12 p b ia ib ic fp ap w h3 h4 hp hb
  by_cases h13 : op = 13; · subst h13; exact pcells_13 p b ia ib ic fp ap w h3 h4 hp hb
  exact pcells_x p b op ia ib ic fp ap w hp ⟨h0, h1, h2, h3', h4', h5, h6, h7, h9, h10, h11, h12, h13⟩

theorem pwork_any (p R b B nB : Nat) (aL : Option Addr) (nL cL : Nat) (op ia ib ic x0 x1 x2 : Int) (n : Rg) (cs : List (Int × Int)) (w : World) (h3 : 3 ≤ p) (h4 : p ≤ 2147483647) (hpr : Num.Prime p) (hR : RnAt w R b B aL nL cL n) (hM : MapAt w B nB cs) (hp : w.cell? ⟨b, 0, none⟩ = some (.int .i64 p)) (hnB : nB + 2 < maxLen) (hx : I64 x0 ∧ I64 x1 ∧ I64 x2) (hcs : ∀ x, 0 ≤ cvl cs x ∧ cvl cs x < p) (hib : I64 ib) (hn : I64 n.pc ∧ I64 n.fp ∧ I64 n.rv) :
    Calls Tryz.prog 79 #[.pointer (some ⟨R, 0, none⟩), .agg #[.int .i64 op, .int .i64 ia, .int .i64 ib, .int .i64 ic], .agg #[.int .i64 x0, .int .i64 x1, .int .i64 x2]] w (WpR B (nB + 2) (wrk p op ib x0 x1 x2 n cs) w) := by
  by_cases h0 : op = 0; · subst h0; exact pwork_0 p R b B nB aL nL cL ia ib ic x0 x1 x2 n cs w hR hM hp hnB hx
  by_cases h1 : op = 1; · subst h1; exact pwork_1 p R b B nB aL nL cL ia ib ic x0 x1 x2 n cs w h3 h4 hR hM hp hnB hx hcs
  by_cases h2 : op = 2; · subst h2; exact pwork_2 p R b B nB aL nL cL ia ib ic x0 x1 x2 n cs w h3 h4 hR hM hp hnB hx hcs
  by_cases h3' : op = 3; · subst h3'; exact pwork_3 p R b B nB aL nL cL ia ib ic x0 x1 x2 n cs w h3 h4 hR hM hp hnB hx hcs
  by_cases h4' : op = 4; · subst h4'; exact pwork_4 p R b B nB aL nL cL ia ib ic x0 x1 x2 n cs w h3 h4 hpr hR hM hp hnB hx hcs
  by_cases h5 : op = 5; · subst h5; exact pwork_5 p R b B nB aL nL cL ia ib ic x0 x1 x2 n cs w h3 h4 hR hM hp hnB hx hib
  by_cases h6 : op = 6; · subst h6; exact pwork_6 p R b B nB aL nL cL ia ib ic x0 x1 x2 n cs w h3 h4 hR hM hp hnB hx
  by_cases h7 : op = 7; · subst h7; exact pwork_7 p R b B nB aL nL cL ia ib ic x0 x1 x2 n cs w hR hM hp hnB hx
  by_cases h8 : op = 8; · subst h8; exact pwork_8 p R b B nB aL nL cL ia ib ic x0 x1 x2 n cs w hR hM hp hnB
  by_cases h9 : op = 9; · subst h9; exact pwork_9 p R b B nB aL nL cL ia ib ic x0 x1 x2 n cs w hR hM hp hnB hx
  by_cases h10 : op = 10; · subst h10; exact pwork_10 p R b B nB aL nL cL ia ib ic x0 x1 x2 n cs w h3 h4 hR hM hp hnB hx ⟨hn.1, hn.2.1⟩
  by_cases h11 : op = 11; · subst h11; exact pwork_11 p R b B nB aL nL cL ia ib ic x0 x1 x2 n cs w hR hM hp hnB hx
  by_cases h12 : op = 12; · subst h12; exact pwork_12 p R b B nB aL nL cL ia ib ic x0 x1 x2 n cs w hR hM hp hnB hx hn.2.2
  by_cases h13 : op = 13; · subst h13; exact pwork_13 p R b B nB aL nL cL ia ib ic x0 x1 x2 n cs w hR hM hp hnB hx hcs h4
  exact pwork_x p R b B nB aL nL cL op ia ib ic x0 x1 x2 n cs w hR hM hp hnB ⟨h0, h1, h2, h3', h4', h5, h6, h7, h8, h9, h10, h11, h12, h13⟩

theorem pmove_any (p R b B : Nat) (aL : Option Addr) (nL cL : Nat) (op ia ib ic s0 s1 s2 : Int) (n : Rg) (w : World) (h3 : 3 ≤ p) (h4 : p ≤ 2147483647) (hR : RnAt w R b B aL nL cL n) (hp : w.cell? ⟨b, 0, none⟩ = some (.int .i64 p)) (hne : b ≠ R) (hn : I64 n.pc ∧ I64 n.ap) (hi : I64 ia ∧ I64 ib) :
    Calls Tryz.prog 80 #[.pointer (some ⟨R, 0, none⟩), .agg #[.int .i64 op, .int .i64 ia, .int .i64 ib, .int .i64 ic], .agg #[.int .i64 s0, .int .i64 s1, .int .i64 s2]] w (MvR R b B aL nL cL (mvg p op ia ib n s0 s1 s2) w) := by
  by_cases h8 : op = 8; · subst h8; exact pmove_8 p R b B aL nL cL ia ib ic s0 s1 s2 n w h3 h4 hR hp hne hn hi
  by_cases h9 : op = 9
  · subst h9
    by_cases hs : s0 = 0
    · exact pmove_9y p R b B aL nL cL ia ib ic s0 s1 s2 n w h3 h4 hR hp hne hn hi hs
    · exact pmove_9n p R b B aL nL cL ia ib ic s0 s1 s2 n w h3 h4 hR hp hne hn hi hs
  by_cases h10 : op = 10; · subst h10; exact pmove_10 p R b B aL nL cL ia ib ic s0 s1 s2 n w h3 h4 hR hp hne hn hi
  by_cases h11 : op = 11; · subst h11; exact pmove_11 p R b B aL nL cL ia ib ic s0 s1 s2 n w h3 h4 hR hp hne hn hi
  exact pmove_x p R b B aL nL cL op ia ib ic s0 s1 s2 n w h3 h4 hR hp hne hn hi ⟨h8, h9, h10, h11⟩

end Go.Proofs.YtdpdmgmeieijaaaGreatDoor
