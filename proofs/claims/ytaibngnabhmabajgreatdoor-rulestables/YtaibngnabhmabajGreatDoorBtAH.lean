/- attestref6.Do: any other attestref6.Do: any instruction. attestref6.Walk: what it walks, and Fault. Package machine: cells that are told, as a map; look, tell, must, one. -/
import Derived.Test.YtaibngnabhmabajGreatDoorBtAB
import Derived.Test.YtaibngnabhmabajGreatDoorBtAC
import Derived.Test.YtaibngnabhmabajGreatDoorBtAD
import Derived.Test.YtaibngnabhmabajGreatDoorBtAE
import Derived.Test.YtaibngnabhmabajGreatDoorMacHc
import Derived.Test.YtaibngnabhmabajGreatDoorBtAF
import Derived.Test.YtaibngnabhmabajGreatDoorBtAG
import Derived.Lib.SmallJoins
import Derived.Maps.OwnOps
import Derived.Maps.OwnSet
import Derived.WalkLawsBesides
namespace Go.Proofs.YtaibngnabhmabajGreatDoor
open Go.RowKit

set_option maxRecDepth 100000 in
set_option maxHeartbeats 4000000 in
theorem do_other (N M base p : Nat) (s0 : RM) (op : Int) (hop : ¬ (0 ≤ op ∧ op ≤ 13)) (a b c : Int) (w : World) (h : DoP N M base p s0 w) (ha1 : -9223372036854775808 ≤ a) (ha2 : a ≤ 9223372036854775807) (hb1 : -9223372036854775808 ≤ b) (hb2 : b ≤ 9223372036854775807) (hc1 : -9223372036854775808 ≤ c) (hc2 : c ≤ 9223372036854775807) :
    Calls Tryz.prog 94 #[.pointer (some ⟨M, 0, none⟩), .agg #[.int .i64 op, .int .i64 a, .int .i64 b, .int .i64 c]] w (DoR N M base p s0 op a b c w) := by
  have hmx : Tryz.prog.follows .mixedOrders = true := by kernel_rfl
  have HP := hid h
  have hp3 := h.p3
  have hp4 := h.p4
  obtain ⟨hpc0, hpc1⟩ := h.pc
  obtain ⟨hfp0, hfp1⟩ := h.fp
  obtain ⟨hap0, hap1⟩ := h.ap
  obtain ⟨hrv0, hrv1⟩ := h.rv
  have hMl := h.mac.get.2.2.2.2.2.2
  obtain ⟨v0, hv0⟩ : ∃ v, w.rowIs M 207 14 (rmv p v s0) := by obtain ⟨_, v, hr, _⟩ := h.mac; exact ⟨v, hr⟩
  obtain ⟨V1, hV1⟩ : ∃ V1, V1 = w.alloc (.cells #[.int .i64 op, .int .i64 a, .int .i64 b, .int .i64 c] 52) := ⟨_, rfl⟩
  obtain ⟨V2, hV2⟩ : ∃ V2, V2 = V1.alloc (.cells #[.int .i64 0, .int .i64 0, .int .i64 0, .int .i64 0, .int .i64 0, .int .i64 0, .int .i64 0, .int .i64 0, .int .i64 0, .int .i64 0] 135) := ⟨_, rfl⟩
  obtain ⟨V3, hV3⟩ : ∃ V3, V3 = V2.alloc (.cells #[.int .i64 s0.pc, .int .i64 s0.fp, .int .i64 s0.ap, .int .i64 s0.rv, .int .i64 (s0.at' 0), .int .i64 (s0.at' 1), .int .i64 (s0.at' 2), .int .i64 (s0.is' 0), .int .i64 (s0.is' 1), .int .i64 (s0.is' 2)] 135) := ⟨_, rfl⟩
  have z1 : V1.heap.size = w.heap.size + 1 := by rw [hV1]; simp
  have z2 : V2.heap.size = w.heap.size + 2 := by rw [hV2]; simp [z1]
  have b1 : Below w.heap.size w V1 := by rw [hV1]; exact (Below.refl _ _).alloc (Nat.le_refl _) _
  have b2 : Below V1.heap.size V1 V2 := by rw [hV2]; exact (Below.refl _ _).alloc (Nat.le_refl _) _
  have b3 : Below V2.heap.size V2 V3 := by rw [hV3]; exact (Below.refl _ _).alloc (Nat.le_refl _) _
  have b12 : Below w.heap.size w V2 := b1.trans (b2.mono (by omega))
  have b13 : Below w.heap.size w V3 := b12.trans (b3.mono (by omega))
  have r2 := hv0.of_block (b12.block M hMl)
  have k2 : V2.cell? ⟨M, 2, none⟩ = some (.int .i64 s0.pc) := r2.cell (i := 2) (by decide)
  have k3 : V2.cell? ⟨M, 3, none⟩ = some (.int .i64 s0.fp) := r2.cell (i := 3) (by decide)
  have k4 : V2.cell? ⟨M, 4, none⟩ = some (.int .i64 s0.ap) := r2.cell (i := 4) (by decide)
  have k5 : V2.cell? ⟨M, 5, none⟩ = some (.int .i64 s0.rv) := r2.cell (i := 5) (by decide)
  have k6 : V2.cell? ⟨M, 6, none⟩ = some (.int .i64 (s0.at' 0)) := r2.cell (i := 6) (by decide)
  have k7 : V2.cell? ⟨M, 7, none⟩ = some (.int .i64 (s0.at' 1)) := r2.cell (i := 7) (by decide)
  have k8 : V2.cell? ⟨M, 8, none⟩ = some (.int .i64 (s0.at' 2)) := r2.cell (i := 8) (by decide)
  have k9 : V2.cell? ⟨M, 9, none⟩ = some (.int .i64 (s0.is' 0)) := r2.cell (i := 9) (by decide)
  have k10 : V2.cell? ⟨M, 10, none⟩ = some (.int .i64 (s0.is' 1)) := r2.cell (i := 10) (by decide)
  have k11 : V2.cell? ⟨M, 11, none⟩ = some (.int .i64 (s0.is' 2)) := r2.cell (i := 11) (by decide)
  have HD0 : Hid (DoS N M base p w.heap.size s0 s0 op a b c ⟨s0.pc, s0.fp, s0.ap, s0.rv⟩ w V3) := by
    refine ⟨h.mac.below b13, (b3.block _ (by omega)).trans ((b2.block _ (by omega)).trans (by rw [hV1]; exact heap_alloc_new w _)), ?_, ?_, FrM.below (by have := h.hN; omega) b13, rfl, hMl, h.hN⟩
    · refine World.rowIs.of_block ?_ (b3.block _ (by omega))
      rw [← z1, hV2]
      exact row_newM V1 _ _ 10 _ rfl (fun i hi => by rcases ten hi with rfl | rfl | rfl | rfl | rfl | rfl | rfl | rfl | rfl | rfl <;> rfl)
    · rw [← z2, hV3]
      exact row_newM V2 _ _ 10 _ rfl (fun i hi => by rcases ten hi with rfl | rfl | rfl | rfl | rfl | rfl | rfl | rfl | rfl | rfl <;> rfl)
  have HADD := hid (fun (x y : Int) (W : World) (x1 : -9223372036854775808 ≤ x) (x2 : x ≤ 9223372036854775807) (y1 : -9223372036854775808 ≤ y) (y2 : y ≤ 9223372036854775807) => radd_any p x y W hp3 hp4 x1 x2 y1 y2)
  obtain ⟨B, hB⟩ : ∃ B, B = w.heap.size := ⟨_, rfl⟩
  have HBB := hid hB
  rw [← hB] at HD0
  obtain ⟨pc1, hpc'⟩ : ∃ pc1, pc1 = (s0.pc + 1) % (p : Int) := ⟨_, rfl⟩
  have HPC := hid hpc'
  obtain ⟨fa, hfa⟩ : ∃ fa, fa = (s0.fp + a) % (p : Int) := ⟨_, rfl⟩
  obtain ⟨fb, hfb⟩ : ∃ fb, fb = (s0.fp + b) % (p : Int) := ⟨_, rfl⟩
  obtain ⟨fc, hfc⟩ : ∃ fc, fc = (s0.fp + c) % (p : Int) := ⟨_, rfl⟩
  have HFA := hid (⟨hfa, hfb, hfc⟩ : fa = (s0.fp + a) % (p : Int) ∧ fb = (s0.fp + b) % (p : Int) ∧ fc = (s0.fp + c) % (p : Int))
  have HFR : Hid ((0 ≤ fa ∧ fa < p) ∧ (0 ≤ fb ∧ fb < p) ∧ (0 ≤ fc ∧ fc < p) ∧ (0 ≤ pc1 ∧ pc1 < p)) := by unfold Hid; rw [hfa, hfb, hfc, hpc']; exact ⟨emod_bounds _ p hp3, emod_bounds _ p hp3, emod_bounds _ p hp3, emod_bounds _ p hp3⟩
  have HAP : Hid (∀ W : World, Calls Tryz.prog 138 #[.int .i64 p, .int .i64 s0.pc, .int .i64 1] W fun e w' => e = .returned (.int .i64 pc1) ∧ w' = W) := fun W => by rw [hpc']; exact HADD.out _ _ W (by omega) (by omega) (by omega) (by omega)
  have HAA : Hid (∀ W : World, Calls Tryz.prog 138 #[.int .i64 p, .int .i64 s0.fp, .int .i64 a] W fun e w' => e = .returned (.int .i64 fa) ∧ w' = W) := fun W => by rw [hfa]; exact HADD.out _ _ W (by omega) (by omega) ha1 ha2
  have HAB : Hid (∀ W : World, Calls Tryz.prog 138 #[.int .i64 p, .int .i64 s0.fp, .int .i64 b] W fun e w' => e = .returned (.int .i64 fb) ∧ w' = W) := fun W => by rw [hfb]; exact HADD.out _ _ W (by omega) (by omega) hb1 hb2
  have HAC : Hid (∀ W : World, Calls Tryz.prog 138 #[.int .i64 p, .int .i64 s0.fp, .int .i64 c] W fun e w' => e = .returned (.int .i64 fc) ∧ w' = W) := fun W => by rw [hfc]; exact HADD.out _ _ W (by omega) (by omega) hc1 hc2
  have hz2 : V2.heap.size = B + 2 := by rw [hB]; exact z2
  have hz1 : V1.heap.size = B + 1 := by rw [hB]; exact z1
  have hz0 : w.heap.size = B := hB.symm
  clear h hv0 z1 z2 b1 b2 b3 b12 b13 r2 hB hpc' hfa hfb hfc
  rw [hV2, hV1] at k2 k3 k4 k5 k6 k7 k8 k9 k10 k11
  rw [hV2, hV1] at hV3
  clear hV2 hV1 hz2 hz1 V1 V2
  go_enter Tryz.func94, Tryz.ntmps94
  go_wp2_with fail
  rw [← hV3]
  clear hV3 k2 k3 k4 k5 k6 k7 k8 k9 k10 k11
  rw [show B + 1 + 1 = B + 2 from rfl]
  obtain ⟨c0, c2, c3, c4, c5, c13, _⟩ := HD0.out.mac.get
  have q0 : V3.cell? ⟨B + 2, 0, none⟩ = some (.int .i64 s0.pc) := HD0.out.nw.cell (i := 0) (by decide)
  have qf := HD0.out.nw.frozen
  have HD1 := hid ((HD0.out.put 0 (.int .i64 pc1) (stv_pc _ _ _)).drew)
  go_still_tail 11, hmx
  still_call (HAP.out _)
  (repeat still_step)
  refine wpStill_nil ?_
  go_wp2_with fail
  clear q0 qf c0 c2 c3 c4 c5 c13 HD0
  generalize (V3.setCell ⟨B + 2, 0, none⟩ (.int .i64 pc1)).drew = V4 at *
  obtain ⟨c0, c2, c3, c4, c5, c13, _⟩ := HD1.out.mac.get
  have i0 := fourM0 HD1.out.ins
  have i1 := fourM1 HD1.out.ins
  have i2 := fourM2 HD1.out.ins
  have i3 := fourM3 HD1.out.ins
  go_wp2_with fail
  go_quiet (first | (go_at_call 138; exact Calls.quiet_of_same (HAA.out _)))
  have HD2 := hid (HD1.out.step (belM V4 nq))
  clear c0 c2 c3 c4 c5 c13 i0 i1 i2 i3 HD1
  generalize V4.drewN nq = V5 at *
  obtain ⟨c0, c2, c3, c4, c5, c13, _⟩ := HD2.out.mac.get
  have i0 := fourM0 HD2.out.ins
  have i1 := fourM1 HD2.out.ins
  have i2 := fourM2 HD2.out.ins
  have i3 := fourM3 HD2.out.ins
  go_wp2_with fail
  go_quiet (first | (go_at_call 138; exact Calls.quiet_of_same (HAB.out _)))
  have HD3 := hid (HD2.out.step (belM V5 nq))
  clear c0 c2 c3 c4 c5 c13 i0 i1 i2 i3 HD2
  generalize V5.drewN nq = V6 at *
  obtain ⟨c0, c2, c3, c4, c5, c13, _⟩ := HD3.out.mac.get
  have i0 := fourM0 HD3.out.ins
  have i1 := fourM1 HD3.out.ins
  have i2 := fourM2 HD3.out.ins
  have i3 := fourM3 HD3.out.ins
  go_wp2_with fail
  go_quiet (first | (go_at_call 138; exact Calls.quiet_of_same (HAC.out _)))
  have HD4 := hid (HD3.out.step (belM V6 nq))
  clear c0 c2 c3 c4 c5 c13 i0 i1 i2 i3 HD3
  generalize V6.drewN nq = V7 at *
  obtain ⟨c0, c2, c3, c4, c5, c13, _⟩ := HD4.out.mac.get
  have i0 := fourM0 HD4.out.ins
  have i1 := fourM1 HD4.out.ins
  have i2 := fourM2 HD4.out.ins
  have i3 := fourM3 HD4.out.ins
  have OK0 : Hid (SOk p 900000 0 s0) := ⟨HP.out.cs, HP.out.len, fun _ => by rw [HP.out.slot]; exact Nat.le_refl _⟩
  have o0 : (op == 0) = false := by rw [beq_eq_false_iff_ne]; intro e; exact hop (by omega)
  have o1 : (op == 1) = false := by rw [beq_eq_false_iff_ne]; intro e; exact hop (by omega)
  have o2 : (op == 2) = false := by rw [beq_eq_false_iff_ne]; intro e; exact hop (by omega)
  have o3 : (op == 3) = false := by rw [beq_eq_false_iff_ne]; intro e; exact hop (by omega)
  have o4 : (op == 4) = false := by rw [beq_eq_false_iff_ne]; intro e; exact hop (by omega)
  have o5 : (op == 5) = false := by rw [beq_eq_false_iff_ne]; intro e; exact hop (by omega)
  have o6 : (op == 6) = false := by rw [beq_eq_false_iff_ne]; intro e; exact hop (by omega)
  have o7 : (op == 7) = false := by rw [beq_eq_false_iff_ne]; intro e; exact hop (by omega)
  have o8 : (op == 8) = false := by rw [beq_eq_false_iff_ne]; intro e; exact hop (by omega)
  have o9 : (op == 9) = false := by rw [beq_eq_false_iff_ne]; intro e; exact hop (by omega)
  have o10 : (op == 10) = false := by rw [beq_eq_false_iff_ne]; intro e; exact hop (by omega)
  have o11 : (op == 11) = false := by rw [beq_eq_false_iff_ne]; intro e; exact hop (by omega)
  have o12 : (op == 12) = false := by rw [beq_eq_false_iff_ne]; intro e; exact hop (by omega)
  have o13 : (op == 13) = false := by rw [beq_eq_false_iff_ne]; intro e; exact hop (by omega)
  obtain ⟨vE, hvE, hcE⟩ : ∃ v, V7.rowIs M 207 14 (rmv p v s0) ∧ CelR base V7 v s0.cs := by obtain ⟨_, v, h1, h2⟩ := HD4.out.mac; exact ⟨v, h1, h2⟩
  have fE := hvE.frozen
  have HGE : Hid (V7.grownBy (V7.setCell ⟨M, 13, none⟩ (.int .i64 7)) (some M)) := gbM (gb_same V7 M)
  have HME : Hid (MacAt M base p { s0 with err := 7 } (V7.setCell ⟨M, 13, none⟩ (.int .i64 7)) ∧ FrM N V7 (V7.setCell ⟨M, 13, none⟩ (.int .i64 7))) := ⟨⟨by have := HD4.out.mac.1; simpa [World.setCell] using this, vE, (hvE.set 13 _).congr (rmv_err p vE s0 7), hcE.kept hvE HGE.out⟩, FrM.gb HGE.out HP.out.hN hvE⟩
  have HD5 := hid (HD4.out.mach HME.out.1 HME.out.2)
  clear HME HGE hvE hcE HD4
  have q0 : (V7.setCell ⟨M, 13, none⟩ (.int .i64 7)).cell? ⟨B + 2, 0, none⟩ = some (.int .i64 pc1) := HD5.out.nw.cell (i := 0) (by decide)
  have q1 : (V7.setCell ⟨M, 13, none⟩ (.int .i64 7)).cell? ⟨B + 2, 1, none⟩ = some (.int .i64 s0.fp) := HD5.out.nw.cell (i := 1) (by decide)
  have q2 : (V7.setCell ⟨M, 13, none⟩ (.int .i64 7)).cell? ⟨B + 2, 2, none⟩ = some (.int .i64 s0.ap) := HD5.out.nw.cell (i := 2) (by decide)
  have q3 : (V7.setCell ⟨M, 13, none⟩ (.int .i64 7)).cell? ⟨B + 2, 3, none⟩ = some (.int .i64 s0.rv) := HD5.out.nw.cell (i := 3) (by decide)
  have q4 : (V7.setCell ⟨M, 13, none⟩ (.int .i64 7)).cell? ⟨B + 2, 4, none⟩ = some (.int .i64 (s0.at' 0)) := HD5.out.nw.cell (i := 4) (by decide)
  have q5 : (V7.setCell ⟨M, 13, none⟩ (.int .i64 7)).cell? ⟨B + 2, 5, none⟩ = some (.int .i64 (s0.at' 1)) := HD5.out.nw.cell (i := 5) (by decide)
  have q6 : (V7.setCell ⟨M, 13, none⟩ (.int .i64 7)).cell? ⟨B + 2, 6, none⟩ = some (.int .i64 (s0.at' 2)) := HD5.out.nw.cell (i := 6) (by decide)
  have q7 : (V7.setCell ⟨M, 13, none⟩ (.int .i64 7)).cell? ⟨B + 2, 7, none⟩ = some (.int .i64 (s0.is' 0)) := HD5.out.nw.cell (i := 7) (by decide)
  have q8 : (V7.setCell ⟨M, 13, none⟩ (.int .i64 7)).cell? ⟨B + 2, 8, none⟩ = some (.int .i64 (s0.is' 1)) := HD5.out.nw.cell (i := 8) (by decide)
  have q9 : (V7.setCell ⟨M, 13, none⟩ (.int .i64 7)).cell? ⟨B + 2, 9, none⟩ = some (.int .i64 (s0.is' 2)) := HD5.out.nw.cell (i := 9) (by decide)
  have r0 : (V7.setCell ⟨M, 13, none⟩ (.int .i64 7)).cell? ⟨B + 1, 0, none⟩ = some (.int .i64 0) := HD5.out.res.cell (i := 0) (by decide)
  have r1 : (V7.setCell ⟨M, 13, none⟩ (.int .i64 7)).cell? ⟨B + 1, 1, none⟩ = some (.int .i64 0) := HD5.out.res.cell (i := 1) (by decide)
  have r2 : (V7.setCell ⟨M, 13, none⟩ (.int .i64 7)).cell? ⟨B + 1, 2, none⟩ = some (.int .i64 0) := HD5.out.res.cell (i := 2) (by decide)
  have r3 : (V7.setCell ⟨M, 13, none⟩ (.int .i64 7)).cell? ⟨B + 1, 3, none⟩ = some (.int .i64 0) := HD5.out.res.cell (i := 3) (by decide)
  have r4 : (V7.setCell ⟨M, 13, none⟩ (.int .i64 7)).cell? ⟨B + 1, 4, none⟩ = some (.int .i64 0) := HD5.out.res.cell (i := 4) (by decide)
  have r5 : (V7.setCell ⟨M, 13, none⟩ (.int .i64 7)).cell? ⟨B + 1, 5, none⟩ = some (.int .i64 0) := HD5.out.res.cell (i := 5) (by decide)
  have r6 : (V7.setCell ⟨M, 13, none⟩ (.int .i64 7)).cell? ⟨B + 1, 6, none⟩ = some (.int .i64 0) := HD5.out.res.cell (i := 6) (by decide)
  have r7 : (V7.setCell ⟨M, 13, none⟩ (.int .i64 7)).cell? ⟨B + 1, 7, none⟩ = some (.int .i64 0) := HD5.out.res.cell (i := 7) (by decide)
  have r8 : (V7.setCell ⟨M, 13, none⟩ (.int .i64 7)).cell? ⟨B + 1, 8, none⟩ = some (.int .i64 0) := HD5.out.res.cell (i := 8) (by decide)
  have r9 : (V7.setCell ⟨M, 13, none⟩ (.int .i64 7)).cell? ⟨B + 1, 9, none⟩ = some (.int .i64 0) := HD5.out.res.cell (i := 9) (by decide)
  have rf := HD5.out.res.frozen
  have hgv := HD5.out.give
  simp only [put10, stv] at hgv
  have HGV := hid hgv
  clear hgv
  clear HD5
  go_wp2_with fail
  (try simp only [Exit.inBlock, Exit.then])
  refine bodyPost_ret (results_cell_row rfl _ _ (B + 1) 135 #[.int .i64 pc1, .int .i64 s0.fp, .int .i64 s0.ap, .int .i64 s0.rv, .int .i64 (s0.at' 0), .int .i64 (s0.at' 1), .int .i64 (s0.at' 2), .int .i64 (s0.is' 0), .int .i64 (s0.is' 1), .int .i64 (s0.is' 2)] (0, 0) _ rfl HGV.out.1 Tryz.underlying135 rfl (by kernel_rfl)) rfl ?_
  have hst : s0.step p op a b c = ({ s0 with err := 7 }, ⟨pc1, s0.fp, s0.ap, s0.rv⟩) := by
    obtain ⟨h1, h2, h3⟩ := HFA.out
    have h4 := HPC.out
    subst h1 h2 h3 h4
    unfold RM.step
    rw [if_neg (by rintro (h | h | h | h | h) <;> exact hop (by omega)), if_neg (fun h => hop (by omega)), if_neg (fun h => hop (by omega)), if_neg (fun h => hop (by omega)), if_neg (fun h => hop (by omega)), if_neg (fun h => hop (by omega)), if_neg (fun h => hop (by omega)), if_neg (fun h => hop (by omega)), if_neg (fun h => hop (by omega)), if_neg (fun h => hop (by omega))]
  unfold DoR
  rw [hst]
  exact ⟨rfl, HGV.out.2⟩

end Go.Proofs.YtaibngnabhmabajGreatDoor

namespace Go.Proofs.YtaibngnabhmabajGreatDoor
open Go.RowKit

theorem rdo_any (N M base p : Nat) (s0 : RM) (op a b c : Int) (w : World) (h : DoP N M base p s0 w) (ha1 : -9223372036854775808 ≤ a) (ha2 : a ≤ 9223372036854775807) (hb1 : -9223372036854775808 ≤ b) (hb2 : b ≤ 9223372036854775807) (hc1 : -9223372036854775808 ≤ c) (hc2 : c ≤ 9223372036854775807) :
    Calls Tryz.prog 94 #[.pointer (some ⟨M, 0, none⟩), .agg #[.int .i64 op, .int .i64 a, .int .i64 b, .int .i64 c]] w (DoR N M base p s0 op a b c w) := by
  by_cases hop : 0 ≤ op ∧ op ≤ 13
  · have : op = 0 ∨ op = 1 ∨ op = 2 ∨ op = 3 ∨ op = 4 ∨ op = 5 ∨ op = 6 ∨ op = 7 ∨ op = 8 ∨ op = 9 ∨ op = 10 ∨ op = 11 ∨ op = 12 ∨ op = 13 := by omega
    rcases this with rfl | rfl | rfl | rfl | rfl | rfl | rfl | rfl | rfl | rfl | rfl | rfl | rfl | rfl
    · exact do_halt N M base p s0 a b c w h ha1 ha2 hb1 hb2 hc1 hc2
    · exact do_add N M base p s0 a b c w h ha1 ha2 hb1 hb2 hc1 hc2
    · exact do_sub N M base p s0 a b c w h ha1 ha2 hb1 hb2 hc1 hc2
    · exact do_mul N M base p s0 a b c w h ha1 ha2 hb1 hb2 hc1 hc2
    · exact do_div N M base p s0 a b c w h ha1 ha2 hb1 hb2 hc1 hc2
    · exact do_set N M base p s0 a b c w h ha1 ha2 hb1 hb2 hc1 hc2
    · exact do_same N M base p s0 a b c w h ha1 ha2 hb1 hb2 hc1 hc2
    · exact do_must N M base p s0 a b c w h ha1 ha2 hb1 hb2 hc1 hc2
    · exact do_jump N M base p s0 a b c w h ha1 ha2 hb1 hb2 hc1 hc2
    · by_cases hz : (s0.look ((s0.fp + a) % (p : Int))).2 = 0
      · exact do_zeroY N M base p s0 a b c w h ha1 ha2 hb1 hb2 hc1 hc2 (fun x fa e1 e2 => by rw [e1, e2]; exact hz)
      · exact do_zeroN N M base p s0 a b c w h ha1 ha2 hb1 hb2 hc1 hc2 (fun x fa e1 e2 => by rw [e1, e2]; exact hz)
    · exact do_call N M base p s0 a b c w h ha1 ha2 hb1 hb2 hc1 hc2
    · exact do_back N M base p s0 a b c w h ha1 ha2 hb1 hb2 hc1 hc2
    · exact do_take N M base p s0 a b c w h ha1 ha2 hb1 hb2 hc1 hc2
    · exact do_pass N M base p s0 a b c w h ha1 ha2 hb1 hb2 hc1 hc2
  · exact do_other N M base p s0 op hop a b c w h ha1 ha2 hb1 hb2 hc1 hc2

end Go.Proofs.YtaibngnabhmabajGreatDoor

namespace Go.Proofs.YtaibngnabhmabajGreatDoor
open Go.RowKit

structure InsZ where
  op : Int
  a : Int
  b : Int
  c : Int
def insat (L : List InsZ) (k : Nat) : InsZ := L.getD k ⟨0, 0, 0, 0⟩
/-- instructions in memory -/
structure LstI (n0 : Nat) (w : World) (a : Option Addr) (cap : Nat) (L : List InsZ) : Prop where
  row : ∀ k, k < L.length → ∃ b o, a = some ⟨b, o, none⟩ ∧ b < n0 ∧ w.cell? ⟨b, o + k * 4, none⟩ = some (.int .i64 (insat L k).op) ∧ w.cell? ⟨b, o + k * 4 + 1, none⟩ = some (.int .i64 (insat L k).a) ∧ w.cell? ⟨b, o + k * 4 + 2, none⟩ = some (.int .i64 (insat L k).b) ∧ w.cell? ⟨b, o + k * 4 + 3, none⟩ = some (.int .i64 (insat L k).c)
  room : L.length ≤ cap
  nil : a = none → cap = 0
theorem LstI.below {n0 : Nat} {A B : World} {a : Option Addr} {cap : Nat} {L : List InsZ} (r : LstI n0 A a cap L) (h : Below n0 A B) : LstI n0 B a cap L :=
  ⟨fun k hk => by
    obtain ⟨b, o, h1, h2, h3, h4, h5, h6⟩ := r.row k hk
    exact ⟨b, o, h1, h2, (h.cell (p := ⟨b, o + k * 4, none⟩) h2).trans h3, (h.cell (p := ⟨b, o + k * 4 + 1, none⟩) h2).trans h4, (h.cell (p := ⟨b, o + k * 4 + 2, none⟩) h2).trans h5, (h.cell (p := ⟨b, o + k * 4 + 3, none⟩) h2).trans h6⟩, r.room, r.nil⟩
theorem LstI.mono {n0 n1 : Nat} {A : World} {a : Option Addr} {cap : Nat} {L : List InsZ} (r : LstI n0 A a cap L) (h : n0 ≤ n1) : LstI n1 A a cap L :=
  ⟨fun k hk => by
    obtain ⟨b, o, h1, h2, h3⟩ := r.row k hk
    exact ⟨b, o, h1, by omega, h3⟩, r.room, r.nil⟩
/-- each number of an instruction is an int -/
def InsB (L : List InsZ) : Prop := ∀ k, k < L.length → (-9223372036854775808 ≤ (insat L k).op ∧ (insat L k).op ≤ 9223372036854775807) ∧ (-9223372036854775808 ≤ (insat L k).a ∧ (insat L k).a ≤ 9223372036854775807) ∧ (-9223372036854775808 ≤ (insat L k).b ∧ (insat L k).b ≤ 9223372036854775807) ∧ (-9223372036854775808 ≤ (insat L k).c ∧ (insat L k).c ≤ 9223372036854775807)

/-- what is wrong with code -/
def fz6 (p : Int) (size : Int) (n : Nat) (limit : Int) : Int := if size < 0 ∨ 65536 < size ∨ n = 0 ∨ 4096 < n ∨ p < (n : Int) then 2 else if limit < 0 ∨ 16384 < limit then 3 else 0

/-- a step as ten numbers -/
def stl (n : Rg) (s : RM) : List Int := [n.pc, n.fp, n.ap, n.rv, s.at' 0, s.at' 1, s.at' 2, s.is' 0, s.is' 1, s.is' 2]
def RM.now (s : RM) : List Int := stl ⟨s.pc, s.fp, s.ap, s.rv⟩ s
def freshM (cs : List (Int × Int)) (n : Rg) : RM := ⟨cs, n.pc, n.fp, n.ap, n.rv, fun _ => 0, fun _ => 0, 0, 0⟩
/-- what a walk comes to -/
inductive WR where
  | bad (e : Int)
  | good (l : List (List Int)) (cs : List (Int × Int))
def mgo (p : Nat) (L : List InsZ) (limit : Nat) : Nat → RM → List (List Int) → WR
  | 0, _, _ => .bad 8
  | f + 1, s, done =>
    if (L.length : Int) ≤ s.pc then .bad 7
    else if done.length = limit ∧ (insat L s.pc.toNat).op ≠ 0 then .bad 8
    else if (s.step p (insat L s.pc.toNat).op (insat L s.pc.toNat).a (insat L s.pc.toNat).b (insat L s.pc.toNat).c).1.err ≠ 0 then .bad (s.step p (insat L s.pc.toNat).op (insat L s.pc.toNat).a (insat L s.pc.toNat).b (insat L s.pc.toNat).c).1.err
    else if (insat L s.pc.toNat).op = 0 then .good (done ++ [(s.step p (insat L s.pc.toNat).op (insat L s.pc.toNat).a (insat L s.pc.toNat).b (insat L s.pc.toNat).c).1.now]) (s.step p (insat L s.pc.toNat).op (insat L s.pc.toNat).a (insat L s.pc.toNat).b (insat L s.pc.toNat).c).1.cs
    else mgo p L limit f (freshM (s.step p (insat L s.pc.toNat).op (insat L s.pc.toNat).a (insat L s.pc.toNat).b (insat L s.pc.toNat).c).1.cs (s.step p (insat L s.pc.toNat).op (insat L s.pc.toNat).a (insat L s.pc.toNat).b (insat L s.pc.toNat).c).2) (done ++ [(s.step p (insat L s.pc.toNat).op (insat L s.pc.toNat).a (insat L s.pc.toNat).b (insat L s.pc.toNat).c).1.now])
def mwalk (p : Nat) (size : Int) (L : List InsZ) (limit : Nat) : WR := mgo p L limit (limit + 1) (freshM [(0, 0)] ⟨0, 1, (1 + size) % (p : Int), 0⟩) []

def RgB (p : Nat) (n : Rg) : Prop := (0 ≤ n.pc ∧ n.pc < p) ∧ (0 ≤ n.fp ∧ n.fp < p) ∧ (0 ≤ n.ap ∧ n.ap < p) ∧ (0 ≤ n.rv ∧ n.rv < p)
theorem SOk.more {p n m k j : Nat} {s : RM} (h : SOk p n k s) (hm : n ≤ m) (hj : k ≤ j) : SOk p m j s := ⟨h.1, Nat.le_trans h.2.1 hm, fun e => Nat.le_trans (h.2.2 e) hj⟩
theorem rg_ite {p : Nat} (P : Prop) [Decidable P] (x y : Rg) (hx : RgB p x) (hy : RgB p y) : RgB p (if P then x else y) := by split <;> assumption
/-- a step keeps what is known -/
theorem step_ok {p n : Nat} {s : RM} (hp : 3 ≤ p) (h : SOk p n 0 s) (hr : RgB p ⟨s.pc, s.fp, s.ap, s.rv⟩) (op a b c : Int) : SOk p (n + 2) 3 (s.step p op a b c).1 ∧ RgB p (s.step p op a b c).2 := by
  have e := fun x => emod_bounds x p hp
  obtain ⟨r1, r2, r3, r4⟩ := hr
  have hn : RgB p ⟨(s.pc + 1) % (p : Int), s.fp, s.ap, s.rv⟩ := ⟨e _, r2, r3, r4⟩
  unfold RM.step
  split
  · refine ⟨?_, hn⟩
    unfold RM.three
    have l1 := look_ok hp h ((s.fp + a) % (p : Int))
    have l2 := look_ok hp l1.1 ((s.fp + b) % (p : Int))
    exact (tell_ok hp (rck_ok l2.1 op _) _ _).more (by omega) (by omega)
  · split
    · exact ⟨(tell_ok hp h _ _).more (by omega) (by omega), hn⟩
    · split
      · have l1 := look_ok hp h ((s.fp + a) % (p : Int))
        have l2 := look_ok hp l1.1 ((s.fp + b) % (p : Int))
        exact ⟨(must_ok l2.1 _).more (by omega) (by omega), hn⟩
      · split
        · exact ⟨h.more (by omega) (by omega), e _, r2, r3, r4⟩
        · split
          · have l1 := look_ok hp h ((s.fp + a) % (p : Int))
            exact ⟨l1.1.more (by omega) (by omega), rg_ite _ _ _ ⟨e _, r2, r3, r4⟩ hn⟩
          · split
            · exact ⟨(tell_ok hp (tell_ok hp h _ _) _ _).more (by omega) (by omega), e _, e _, e _, r4⟩
            · split
              · have l1 := look_ok hp h ((s.fp - 2) % (p : Int))
                have l2 := look_ok hp l1.1 ((s.fp - 1) % (p : Int))
                have l3 := look_ok hp l2.1 ((s.fp + a) % (p : Int))
                exact ⟨l3.1.more (by omega) (by omega), l2.2, l1.2, r3, l3.2⟩
              · split
                · exact ⟨(tell_ok hp h _ _).more (by omega) (by omega), hn⟩
                · split
                  · have l1 := look_ok hp h ((s.fp + a) % (p : Int))
                    exact ⟨(tell_ok hp l1.1 _ _).more (by omega) (by omega), hn⟩
                  · split
                    · have l1 := look_ok hp h ((s.fp + a) % (p : Int))
                      exact ⟨l1.1.more (by omega) (by omega), hn⟩
                    · exact ⟨⟨h.1, Nat.le_trans h.2.1 (by omega), fun e => absurd (show (7 : Int) = 0 from e) (by decide)⟩, hn⟩

set_option maxRecDepth 100000 in
set_option maxHeartbeats 1000000 in
theorem rfault6_any (p size limit : Int) (n cap : Nat) (a : Option Addr) (w : World) (hn : n ≤ 281474976710656) :
    Calls Tryz.prog 93 #[.int .i64 p, .agg #[.int .i64 size, .slice a n cap], .int .i64 limit] w fun e w' => e = .returned (.int .i64 (fz6 p size n limit)) ∧ Below w.heap.size w w' := by
  have HB : Hid (Below w.heap.size w (w.alloc (.cells #[.int .i64 size, .slice a n cap] 47))) := (Below.refl _ _).alloc (Nat.le_refl _) _
  obtain ⟨z, hz⟩ : ∃ z, z = fz6 p size n limit := ⟨_, rfl⟩
  rw [← hz]
  by_cases h1 : size < 0 ∨ 65536 < size ∨ n = 0 ∨ 4096 < n ∨ p < (n : Int)
  · have HZ : Hid (z = 2) := by unfold Hid; rw [hz, fz6, if_pos h1]
    clear hz
    by_cases a1 : size < 0
    · clear h1
      go_enter Tryz.func93, Tryz.ntmps93
      go_wp2_with fail
      go_ret
      rw [HZ.out]
      exact ⟨rfl, HB.out⟩
    · by_cases a2 : 65536 < size
      · clear h1
        go_enter Tryz.func93, Tryz.ntmps93
        go_wp2_with fail
        go_ret
        rw [HZ.out]
        exact ⟨rfl, HB.out⟩
      · by_cases a3 : n = 0
        · have b3 : ((n : Int) == 0) = true := by simp [a3]
          clear h1 a3
          go_enter Tryz.func93, Tryz.ntmps93
          go_wp2_with fail
          go_ret
          rw [HZ.out]
          exact ⟨rfl, HB.out⟩
        · have b3 : ((n : Int) == 0) = false := by simp [a3]
          by_cases a4 : 4096 < n
          · have b4 : (4096 : Int) < (n : Int) := by omega
            clear h1 a3 a4
            go_enter Tryz.func93, Tryz.ntmps93
            go_wp2_with fail
            go_ret
            rw [HZ.out]
            exact ⟨rfl, HB.out⟩
          · have b4 : ¬ (4096 : Int) < (n : Int) := by omega
            have b5 : p < (n : Int) := by omega
            clear h1 a3 a4
            go_enter Tryz.func93, Tryz.ntmps93
            go_wp2_with fail
            go_ret
            rw [HZ.out]
            exact ⟨rfl, HB.out⟩
  · have a1 : ¬ size < 0 := fun h => h1 (.inl h)
    have a2 : ¬ 65536 < size := fun h => h1 (.inr (.inl h))
    have b3 : ((n : Int) == 0) = false := by rw [beq_eq_false_iff_ne]; intro e; exact h1 (.inr (.inr (.inl (by omega))))
    have b4 : ¬ (4096 : Int) < (n : Int) := fun h => h1 (.inr (.inr (.inr (.inl (by omega)))))
    have b5 : ¬ p < (n : Int) := fun h => h1 (.inr (.inr (.inr (.inr h))))
    by_cases h2 : limit < 0 ∨ 16384 < limit
    · have HZ : Hid (z = 3) := by unfold Hid; rw [hz, fz6, if_neg h1, if_pos h2]
      clear hz h1
      by_cases c1 : limit < 0
      · clear h2
        go_enter Tryz.func93, Tryz.ntmps93
        go_wp2_with fail
        go_ret
        rw [HZ.out]
        exact ⟨rfl, HB.out⟩
      · have c2 : 16384 < limit := by omega
        clear h2
        go_enter Tryz.func93, Tryz.ntmps93
        go_wp2_with fail
        go_ret
        rw [HZ.out]
        exact ⟨rfl, HB.out⟩
    · have HZ : Hid (z = 0) := by unfold Hid; rw [hz, fz6, if_neg h1, if_neg h2]
      have c1 : ¬ limit < 0 := fun h => h2 (.inl h)
      have c2 : ¬ 16384 < limit := fun h => h2 (.inr h)
      clear hz h1 h2
      go_enter Tryz.func93, Tryz.ntmps93
      go_wp2_with fail
      go_ret
      rw [HZ.out]
      exact ⟨rfl, HB.out⟩

end Go.Proofs.YtaibngnabhmabajGreatDoor

namespace Go.Proofs.YtaibngnabhmabajGreatDoor
open Go.RowKit Go.Maps

theorem keyI : Keyed Tryz.prog 3 := int_keyed Tryz.underlying3
theorem zeroI (w : World) : (zeroValue 3).run Tryz.prog w = .ok (.int .i64 0) w := by kernel_rfl
/-- what a cell is -/
def cvl (cs : List (Int × Int)) (x : Int) : Int := if 0 ≤ finz cs x then (cat cs (finz cs x).toNat).2 else 0
/-- a map that reads as cells that are told -/
def CMap (D : DataW Unit) (cs : List (Int × Int)) : Prop := ∀ x : Int, (-9223372036854775808 ≤ x ∧ x ≤ 9223372036854775807) → Maps.has D (.int .i64 x) = decide (0 ≤ finz cs x) ∧ D.atKey (.int .i64 x) (.lit (.int .i64 0)) = .lit (.int .i64 (cvl cs x))
def MapAt (w : World) (B n : Nat) (cs : List (Int × Int)) : Prop := ∃ D : DataW Unit, w.ownsMap Tryz.prog 3 (plainElem Tryz.prog 3) B n D ∧ CMap D cs
theorem MapAt.kept {w w' : World} {B n : Nat} {cs : List (Int × Int)} {row : Option Nat} (h : MapAt w B n cs) (hg : w.grownBy w' row) (hne : some B ≠ row) : MapAt w' B n cs := by
  obtain ⟨D, h1, h2⟩ := h
  exact ⟨D, h1.kept hg hne, h2⟩
/-- a run that did not go on -/
def pnc (T : TypeId) : Ending := .panicked [{ v := .iface T (.agg #[]), recovered := false }]
/-- a run in memory -/
def rnv (b B : Nat) (aL : Option Addr) (nL cL : Nat) (n : Rg) : Nat → Value
  | 0 => .pointer (some ⟨b, 0, none⟩)
  | 1 => .slice aL nL cL
  | 2 => .map (some B)
  | 3 => .int .i64 n.pc
  | 4 => .int .i64 n.fp
  | 5 => .int .i64 n.ap
  | _ => .int .i64 n.rv
def RnAt (w : World) (R b B : Nat) (aL : Option Addr) (nL cL : Nat) (n : Rg) : Prop := w.rowIs R 198 7 (rnv b B aL nL cL n)
theorem key64 {x : Int} (h : -9223372036854775808 ≤ x ∧ x ≤ 9223372036854775807) : keyOf Tryz.prog 3 (.int .i64 x) = some (.int .i64 x) := keyOf_int_mk Tryz.underlying3 (WalkArith.wf_i64 h)

theorem pmust_yes (w : World) : Calls Tryz.prog 168 #[.bool true] w fun e w' => e = .returned (.tuple #[]) ∧ w' = w := by
  have hnot : ∀ (x : Bool) (w : World), (Op.unary .not (.bool x)).run Tryz.prog w = .ok (.bool (!x)) w := fun _ _ => rfl
  go_enter Tryz.func168, Tryz.ntmps168
  go_wp2_with fail
  go_end0
  exact ⟨rfl, rfl⟩
theorem pmust_no (w : World) : Calls Tryz.prog 168 #[.bool false] w fun e w' => e = pnc 192 ∧ w' = w := by
  have hnot : ∀ (x : Bool) (w : World), (Op.unary .not (.bool x)).run Tryz.prog w = .ok (.bool (!x)) w := fun _ _ => rfl
  go_enter Tryz.func168, Tryz.ntmps168
  go_wp2_with fail
  exact ⟨rfl, rfl, rfl⟩
theorem pone_any (b : Bool) (w : World) : Calls Tryz.prog 204 #[.bool b] w fun e w' => e = .returned (.int .i64 (if b then 1 else 0)) ∧ w' = w := by
  cases b
  all_goals
    go_enter Tryz.func204, Tryz.ntmps204
    go_wp2_with fail
    go_ret
    exact ⟨rfl, rfl⟩

theorem plook_yes (R b B nB : Nat) (aL : Option Addr) (nL cL : Nat) (n : Rg) (cs : List (Int × Int)) (x : Int) (w : World) (hR : RnAt w R b B aL nL cL n) (hM : MapAt w B nB cs) (hx : -9223372036854775808 ≤ x ∧ x ≤ 9223372036854775807) (ht : 0 ≤ finz cs x) :
    Calls Tryz.prog 203 #[.pointer (some ⟨R, 0, none⟩), .int .i64 x] w fun e w' => e = .returned (.int .i64 (cvl cs x)) ∧ w' = w := by
  have hnot : ∀ (x : Bool) (w : World), (Op.unary .not (.bool x)).run Tryz.prog w = .ok (.bool (!x)) w := fun _ _ => rfl
  obtain ⟨D, hD, hC⟩ := hM
  have HC := hid (hC x hx)
  have c2 : w.cell? ⟨R, 2, none⟩ = some (.map (some B)) := hR.cell (i := 2) (by decide)
  have HT := hid ht
  clear hC hR ht
  go_enter Tryz.func203, Tryz.ntmps203
  go_wp2_with (at_lookup; refine wpList_lookup_own_ok_int _ rfl _ _ 130 rfl 3 3 .i64 keyI Tryz.underlying130 Tryz.underlying3 (zeroI _) B nB _ rfl hD _ _ rfl (key64 hx) ?_; intro c hat hwc; rw [HC.out.1, decide_eq_true HT.out]; obtain rfl : c = cvl cs x := by (rw [HC.out.2] at hat; injection hat with hat; injection hat with _ hat; exact hat.symm))
  go_ret
  exact ⟨rfl, rfl⟩

theorem plook_no (R b B nB : Nat) (aL : Option Addr) (nL cL : Nat) (n : Rg) (cs : List (Int × Int)) (x : Int) (w : World) (hR : RnAt w R b B aL nL cL n) (hM : MapAt w B nB cs) (hx : -9223372036854775808 ≤ x ∧ x ≤ 9223372036854775807) (ht : ¬ 0 ≤ finz cs x) :
    Calls Tryz.prog 203 #[.pointer (some ⟨R, 0, none⟩), .int .i64 x] w fun e w' => e = pnc 191 ∧ w' = w := by
  have hnot : ∀ (x : Bool) (w : World), (Op.unary .not (.bool x)).run Tryz.prog w = .ok (.bool (!x)) w := fun _ _ => rfl
  obtain ⟨D, hD, hC⟩ := hM
  have HC := hid (hC x hx)
  have c2 : w.cell? ⟨R, 2, none⟩ = some (.map (some B)) := hR.cell (i := 2) (by decide)
  have HT := hid ht
  clear hC hR ht
  go_enter Tryz.func203, Tryz.ntmps203
  go_wp2_with (at_lookup; refine wpList_lookup_own_ok_int _ rfl _ _ 130 rfl 3 3 .i64 keyI Tryz.underlying130 Tryz.underlying3 (zeroI _) B nB _ rfl hD _ _ rfl (key64 hx) ?_; intro c hat hwc; rw [HC.out.1, decide_eq_false HT.out]; obtain rfl : c = cvl cs x := by (rw [HC.out.2] at hat; injection hat with hat; injection hat with _ hat; exact hat.symm))
  exact ⟨rfl, rfl, rfl⟩

theorem finz_app {cs : List (Int × Int)} {d : Int × Int} {x : Int} : finz (cs ++ [d]) x = if 0 ≤ finz cs x then finz cs x else if d.1 = x then (cs.length : Int) else -1 := by
  unfold finz
  rw [List.findIdx?_append]
  cases h : cs.findIdx? (fun c => c.1 == x) with
  | some i => simp
  | none =>
    by_cases hd : d.1 = x
    · simp [hd, List.findIdx?_cons]
    · simp [hd, List.findIdx?_cons]
theorem finz_bound {cs : List (Int × Int)} {x : Int} (h : 0 ≤ finz cs x) : (finz cs x).toNat < cs.length ∧ (cat cs (finz cs x).toNat).1 = x := by
  unfold finz at h ⊢
  cases hf : cs.findIdx? (fun c => c.1 == x) with
  | none => rw [hf] at h; simp at h
  | some i =>
    rw [hf] at h
    simp only [Int.toNat_natCast]
    obtain ⟨h1, h2, _⟩ := List.findIdx?_eq_some_iff_getElem.1 hf
    refine ⟨h1, ?_⟩
    simp [cat, h1]
    simpa using h2
/-- the cells behind a telling -/
def tld (cs : List (Int × Int)) (x y : Int) : List (Int × Int) := if 0 ≤ finz cs x then cs else cs ++ [(x, y)]
theorem tld_finz {cs : List (Int × Int)} {x y z : Int} : (0 ≤ finz (tld cs x y) z) ↔ (0 ≤ finz cs z ∨ z = x) := by
  unfold tld
  split
  · rename_i h
    constructor
    · exact .inl
    · rintro (h2 | rfl)
      · exact h2
      · exact h
  · rename_i h
    rw [finz_app]
    constructor
    · intro h2
      by_cases h3 : 0 ≤ finz cs z
      · exact .inl h3
      · rw [if_neg h3] at h2
        by_cases h4 : x = z
        · exact .inr h4.symm
        · simp only [] at h2
          rw [if_neg h4] at h2
          omega
    · rintro (h2 | rfl)
      · rw [if_pos h2]; exact h2
      · rw [if_neg h, if_pos rfl]; omega
theorem tld_cvl {cs : List (Int × Int)} {x y z : Int} (hs : 0 ≤ finz cs x → cvl cs x = y) : cvl (tld cs x y) z = if z = x then y else cvl cs z := by
  by_cases hz : z = x
  · subst hz
    rw [if_pos rfl]
    unfold tld
    split
    · rename_i h; exact hs h
    · rename_i h
      unfold cvl
      rw [finz_app, if_neg h, if_pos rfl, if_pos (by omega)]
      simp [cat]
  · rw [if_neg hz]
    unfold tld
    split
    · rfl
    · rename_i h
      unfold cvl
      rw [finz_app]
      by_cases h2 : 0 ≤ finz cs z
      · rw [if_pos h2, if_pos h2, if_pos h2, cat_app (finz_bound h2).1]
      · rw [if_neg h2, if_neg (show ¬ (x, y).1 = z from fun e => hz e.symm), if_neg (by omega), if_neg h2]
theorem cmap_put {D : DataW Unit} {cs : List (Int × Int)} {x y : Int} (h : CMap D cs) (hi : IsMap D) (hs : 0 ≤ finz cs x → cvl cs x = y) : CMap (D.put (.int .i64 x) (.lit (.int .i64 y))) (tld cs x y) := fun z hz => by
  rw [tld_cvl hs]
  by_cases hzx : z = x
  · subst hzx
    rw [has_put_same (k := Lit.int .i64 z) hi trivial, atKey_put_same (k := Lit.int .i64 z) hi trivial, if_pos rfl, decide_eq_true (tld_finz.2 (.inr rfl))]
    exact ⟨rfl, rfl⟩
  · have hne : (Lit.int .i64 z) ≠ (Lit.int .i64 x) := by intro e; injection e with _ e; exact hzx e
    rw [has_put_other hne, atKey_put_other hne, if_neg hzx, (h z hz).1, (h z hz).2]
    refine ⟨?_, rfl⟩
    rw [decide_eq_decide]
    constructor
    · exact fun h2 => tld_finz.2 (.inl h2)
    · intro h2
      rcases tld_finz.1 h2 with h3 | h3
      · exact h3
      · exact absurd h3 hzx

theorem ptell_yes (R b B nB : Nat) (aL : Option Addr) (nL cL : Nat) (n : Rg) (cs : List (Int × Int)) (x y : Int) (w : World) (hR : RnAt w R b B aL nL cL n) (hM : MapAt w B nB cs) (hnB : nB < maxLen) (hx : -9223372036854775808 ≤ x ∧ x ≤ 9223372036854775807) (hy : -9223372036854775808 ≤ y ∧ y ≤ 9223372036854775807) (hs : 0 ≤ finz cs x → cvl cs x = y) :
    Calls Tryz.prog 202 #[.pointer (some ⟨R, 0, none⟩), .int .i64 x, .int .i64 y] w fun e w' => e = .returned (.tuple #[]) ∧ MapAt w' B (nB + 1) (tld cs x y) ∧ w.grownBy w' (some B) := by
  have hnot : ∀ (x : Bool) (w : World), (Op.unary .not (.bool x)).run Tryz.prog w = .ok (.bool (!x)) w := fun _ _ => rfl
  obtain ⟨D, hD, hC⟩ := hM
  have HC := hid (hC x hx)
  have HP := hid (cmap_put hC hD.isMap hs)
  have HS := hid hs
  have HMU := hid (pmust_yes w)
  have c2 : w.cell? ⟨R, 2, none⟩ = some (.map (some B)) := hR.cell (i := 2) (by decide)
  clear hC hR hs
  by_cases ht : 0 ≤ finz cs x
  · have he : (cvl cs x == y) = true := by rw [HS.out ht]; simp
    have HT := hid ht
    clear ht
    go_enter Tryz.func202, Tryz.ntmps202
    go_wp2_with (first | (at_lookup; refine wpList_lookup_own_ok_int _ rfl _ _ 130 rfl 3 3 .i64 keyI Tryz.underlying130 Tryz.underlying3 (zeroI _) B nB _ rfl hD _ _ rfl (key64 hx) ?_; intro c hat hwc; rw [HC.out.1, decide_eq_true HT.out]; obtain rfl : c = cvl cs x := by (rw [HC.out.2] at hat; injection hat with hat; injection hat with _ hat; exact hat.symm)) | (at_mapUpdate; refine wpList_mapUpdate_own _ rfl _ _ _ 130 rfl 3 3 keyI Tryz.underlying130 _ B nB _ rfl hD hnB _ _ _ rfl rfl (key64 hx) _ [] (plainElem_int Tryz.underlying3 (WalkArith.wf_i64 hy)) ?_; intro w1 hown1 hgrow1))
    refine HMU.out.mono ?_
    rintro e w2 ⟨rfl, rfl⟩
    go_wp2_with (first | (at_mapUpdate; refine wpList_mapUpdate_own _ rfl _ _ _ 130 rfl 3 3 keyI Tryz.underlying130 _ B nB _ rfl hD hnB _ _ _ rfl rfl (key64 hx) _ [] (plainElem_int Tryz.underlying3 (WalkArith.wf_i64 hy)) ?_; intro w1 hown1 hgrow1))
    go_end0
    exact ⟨rfl, ⟨_, hown1, HP.out⟩, hgrow1⟩
  · have HT := hid ht
    clear ht
    go_enter Tryz.func202, Tryz.ntmps202
    go_wp2_with (first | (at_lookup; refine wpList_lookup_own_ok_int _ rfl _ _ 130 rfl 3 3 .i64 keyI Tryz.underlying130 Tryz.underlying3 (zeroI _) B nB _ rfl hD _ _ rfl (key64 hx) ?_; intro c hat hwc; rw [HC.out.1, decide_eq_false HT.out]; obtain rfl : c = cvl cs x := by (rw [HC.out.2] at hat; injection hat with hat; injection hat with _ hat; exact hat.symm)))
    refine HMU.out.mono ?_
    rintro e w2 ⟨rfl, rfl⟩
    go_wp2_with (first | (at_mapUpdate; refine wpList_mapUpdate_own _ rfl _ _ _ 130 rfl 3 3 keyI Tryz.underlying130 _ B nB _ rfl hD hnB _ _ _ rfl rfl (key64 hx) _ [] (plainElem_int Tryz.underlying3 (WalkArith.wf_i64 hy)) ?_; intro w1 hown1 hgrow1))
    go_end0
    exact ⟨rfl, ⟨_, hown1, HP.out⟩, hgrow1⟩
theorem ptell_no (R b B nB : Nat) (aL : Option Addr) (nL cL : Nat) (n : Rg) (cs : List (Int × Int)) (x y : Int) (w : World) (hR : RnAt w R b B aL nL cL n) (hM : MapAt w B nB cs) (hx : -9223372036854775808 ≤ x ∧ x ≤ 9223372036854775807) (ht : 0 ≤ finz cs x) (hs : cvl cs x ≠ y) :
    Calls Tryz.prog 202 #[.pointer (some ⟨R, 0, none⟩), .int .i64 x, .int .i64 y] w fun e w' => e = pnc 192 ∧ w' = w := by
  have hnot : ∀ (x : Bool) (w : World), (Op.unary .not (.bool x)).run Tryz.prog w = .ok (.bool (!x)) w := fun _ _ => rfl
  obtain ⟨D, hD, hC⟩ := hM
  have HC := hid (hC x hx)
  have HMU := hid (pmust_no w)
  have c2 : w.cell? ⟨R, 2, none⟩ = some (.map (some B)) := hR.cell (i := 2) (by decide)
  have he : (cvl cs x == y) = false := by rw [beq_eq_false_iff_ne]; exact hs
  have HT := hid ht
  clear hC hR hs ht
  go_enter Tryz.func202, Tryz.ntmps202
  go_wp2_with (first | (at_lookup; refine wpList_lookup_own_ok_int _ rfl _ _ 130 rfl 3 3 .i64 keyI Tryz.underlying130 Tryz.underlying3 (zeroI _) B nB _ rfl hD _ _ rfl (key64 hx) ?_; intro c hat hwc; rw [HC.out.1, decide_eq_true HT.out]; obtain rfl : c = cvl cs x := by (rw [HC.out.2] at hat; injection hat with hat; injection hat with _ hat; exact hat.symm)))
  refine HMU.out.mono ?_
  rintro e w2 ⟨rfl, rfl⟩
  exact ⟨rfl, rfl, rfl⟩

end Go.Proofs.YtaibngnabhmabajGreatDoor
