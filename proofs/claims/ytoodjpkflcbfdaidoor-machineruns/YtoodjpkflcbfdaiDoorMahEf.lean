/- Package machine: work, calls. -/
import Derived.Test.YtoodjpkflcbfdaiDoorMahD
import Derived.Test.YtoodjpkflcbfdaiDoorSpgs
namespace Go.Proofs.YtoodjpkflcbfdaiDoor
open Go.RowKit Go.Maps

set_option maxRecDepth 100000 in
set_option maxHeartbeats 1000000 in
theorem pwork_10 (p R b B nB : Nat) (aL : Option Addr) (nL cL : Nat) (ia ib ic x0 x1 x2 : Int) (n : Rg) (cs : List (Int × Int)) (w : World) (h3 : 3 ≤ p) (h4 : p ≤ 2147483647) (hR : RnAt w R b B aL nL cL n) (hM : MapAt w B nB cs) (hp : w.cell? ⟨b, 0, none⟩ = some (.int .i64 p)) (hnB : nB + 2 < maxLen) (hx : I64 x0 ∧ I64 x1 ∧ I64 x2) (hn : I64 n.pc ∧ I64 n.fp) :
    Calls Tryd.prog 87 #[.pointer (some ⟨R, 0, none⟩), .agg #[.int .i64 10, .int .i64 ia, .int .i64 ib, .int .i64 ic], .agg #[.int .i64 x0, .int .i64 x1, .int .i64 x2]] w (WpR B (nB + 2) (wrk p 10 ib x0 x1 x2 n cs) w) := by
  have hmx : Tryd.prog.follows .mixedOrders = true := by kernel_rfl
  have HP := hid (woP_of p R b B nB aL nL cL 10 ia ib ic x0 x1 x2 n cs w hR hM hp)
  obtain ⟨W0, hW0⟩ : ∃ W0, W0 = (w.alloc (.cells #[.int .i64 10, .int .i64 ia, .int .i64 ib, .int .i64 ic] 71)).alloc (.cells #[.int .i64 x0, .int .i64 x1, .int .i64 x2] 47) := ⟨_, rfl⟩
  rw [← hW0] at HP
  have hpc := HP.out.hp
  have hbd : Below w.heap.size w W0.drew := HP.out.bel.drew
  have hRd : RnAt W0.drew R b B aL nL cL n := HP.out.rn
  have hMd : MapAt W0.drew B nB cs := HP.out.mp
  have c0 : W0.cell? ⟨R, 0, none⟩ = some (.pointer (some ⟨b, 0, none⟩)) := HP.out.rn.cell (i := 0) (by decide)
  have c3 : W0.cell? ⟨R, 3, none⟩ = some (.int .i64 n.pc) := HP.out.rn.cell (i := 3) (by decide)
  have c4 : W0.cell? ⟨R, 4, none⟩ = some (.int .i64 n.fp) := HP.out.rn.cell (i := 4) (by decide)
  have c6 : W0.cell? ⟨R, 6, none⟩ = some (.int .i64 n.rv) := HP.out.rn.cell (i := 6) (by decide)
  have j2 : W0.cell? ⟨w.heap.size, 2, none⟩ = some (.int .i64 ib) := by simp [World.cell?, HP.out.i]
  have a0 : W0.cell? ⟨w.heap.size + 1, 0, none⟩ = some (.int .i64 x0) := by simp [World.cell?, HP.out.r]
  have a1 : W0.cell? ⟨w.heap.size + 1, 1, none⟩ = some (.int .i64 x1) := by simp [World.cell?, HP.out.r]
  have a2 : W0.cell? ⟨w.heap.size + 1, 2, none⟩ = some (.int .i64 x2) := by simp [World.cell?, HP.out.r]
  have HG : Hid (w.grownBy W0.drew (some B)) := grB hbd
  have HBD := hid hbd
  have HNB := hid hnB

  have hzb : I64 ((n.pc + 1) % (p : Int)) := by have := emod_bounds (n.pc + 1) p h3; exact ⟨by omega, by omega⟩
  have HT := hid (ptell_any R b B nB aL nL cL n cs x0 n.fp W0.drew hRd hMd (by omega) hx.1 hn.2)
  have HK : Hid (∀ W : World, W0.drew.grownBy W (some B) → W.cell? ⟨R, 0, none⟩ = some (.pointer (some ⟨b, 0, none⟩)) ∧ W.cell? ⟨R, 3, none⟩ = some (.int .i64 n.pc) ∧ W.cell? ⟨w.heap.size + 1, 1, none⟩ = some (.int .i64 x1) ∧ W.cell? ⟨b, 0, none⟩ = some (.int .i64 p) ∧ RnAt W R b B aL nL cL n) := fun W g => ⟨cell_told hMd g c0, cell_told hMd g c3, cell_told hMd g a1, cell_told hMd g hpc, hRd.told hMd g⟩
  have HA : Hid (∀ W : World, W.cell? ⟨b, 0, none⟩ = some (.int .i64 p) → Calls Tryd.prog 58 #[.pointer (some ⟨b, 0, none⟩), .int .i64 n.pc, .int .i64 1] W fun e w' => e = .returned (.int .i64 ((n.pc + 1) % (p : Int))) ∧ w' = W) := fun W h => add_any p b _ _ W h3 h4 h hn.1.1 hn.1.2 (by decide) (by decide)
  have HTT : Hid (∀ W : World, RnAt W R b B aL nL cL n → MapAt W B (nB + 1) (tel cs x0 n.fp).2 → Calls Tryd.prog 119 #[.pointer (some ⟨R, 0, none⟩), .int .i64 x1, .int .i64 ((n.pc + 1) % (p : Int))] W (WpR B (nB + 1 + 1) (tel (tel cs x0 n.fp).2 x1 ((n.pc + 1) % (p : Int))) W)) := fun W hr hm => ptell_any R b B (nB + 1) aL nL cL n _ x1 _ W hr hm (by omega) hx.2.1 hzb
  have HW1 : Hid ((tel cs x0 n.fp).1 ≠ 0 → wrk p 10 ib x0 x1 x2 n cs = tel cs x0 n.fp) := fun h => by unfold wrk; simp [h]
  have HW2 : Hid ((tel cs x0 n.fp).1 = 0 → wrk p 10 ib x0 x1 x2 n cs = tel (tel cs x0 n.fp).2 x1 ((n.pc + 1) % (p : Int))) := fun h => by unfold wrk; simp [h]
  generalize (n.pc + 1) % (p : Int) = z at *
  clear hRd hMd hbd hR hM hp hx hn hzb h3 h4
  go_enter Tryd.func87, Tryd.ntmps87
  go_wp2_with fail
  rw [← hW0]
  clear hW0
  refine wp_region_still_tail 7 hmx (by kernel_rfl) ?_
  simp only [List.take_succ_cons, List.take_zero, List.drop_succ_cons, List.drop_zero]
  repeat still_step
  refine wpStill_nil ?_
  go_wp2_with fail
  refine HT.out.mono ?_
  rintro e w2 ⟨hg2, ⟨h0, rfl, hm2⟩ | ⟨h7, rfl⟩ | ⟨h10, rfl⟩⟩
  · obtain ⟨d0, d3, f1, dp, dr⟩ := HK.out w2 hg2
    have HT2 := hid (HTT.out w2.drew dr hm2)
    have HA2 := hid (HA.out w2.drew dp)
    have HWW := hid (HW2.out h0)
    have HG2 : Hid (w.grownBy w2.drew (some B)) := by
      have := grW HBD.out hg2
      exact ⟨this.os, this.tape, this.output, this.size, this.block⟩
    clear hg2 h0 hm2 HT HK HA HTT HW1 HW2 dr c0 c3 c4 c6 j2 a0 a1 a2 hpc
    go_wp2_with fail
    refine wp_region_still_tail 12 hmx (by kernel_rfl) ?_
    simp only [List.take_succ_cons, List.take_zero, List.drop_succ_cons, List.drop_zero]
    repeat still_step
    still_call HA2.out
    repeat still_step
    refine wpStill_nil ?_
    go_wp2_with fail
    refine HT2.out.mono ?_
    rintro e w3 ⟨hg3, ⟨h0, rfl, hm3⟩ | ⟨h7, rfl⟩ | ⟨h10, rfl⟩⟩
    · have HE : Hid (WpR B (nB + 2) (wrk p 10 ib x0 x1 x2 n cs) w (.returned (.tuple #[])) w3) := by
        rw [HWW.out]
        exact ⟨HG2.out.trans hg3, .inl ⟨h0, rfl, hm3.mono (by omega)⟩⟩
      clear hg3 h0 hm3 HT2
      go_wp2_with fail
      go_end0
      exact HE.out
    · exact ⟨rfl, by rw [HWW.out]; exact ⟨HG2.out.trans hg3, .inr (.inl ⟨h7, rfl⟩)⟩⟩
    · exact ⟨rfl, by rw [HWW.out]; exact ⟨HG2.out.trans hg3, .inr (.inr ⟨h10, rfl⟩)⟩⟩
  · exact ⟨rfl, by rw [HW1.out (by rw [h7]; decide)]; exact ⟨grW HBD.out hg2, .inr (.inl ⟨h7, rfl⟩)⟩⟩
  · exact ⟨rfl, by rw [HW1.out (by rw [h10]; decide)]; exact ⟨grW HBD.out hg2, .inr (.inr ⟨h10, rfl⟩)⟩⟩

end Go.Proofs.YtoodjpkflcbfdaiDoor
