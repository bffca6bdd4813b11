/- attestref6.Do: op 4 attestref6.Do: op 6 -/
import Derived.Test.YtaibngnabhmabajGreatDoorBtAB
namespace Go.Proofs.YtaibngnabhmabajGreatDoor
open Go.RowKit

set_option maxRecDepth 100000 in
set_option maxHeartbeats 4000000 in
theorem do_div (N M base p : Nat) (s0 : RM) (a b c : Int) (w : World) (h : DoP N M base p s0 w) (ha1 : -9223372036854775808 ≤ a) (ha2 : a ≤ 9223372036854775807) (hb1 : -9223372036854775808 ≤ b) (hb2 : b ≤ 9223372036854775807) (hc1 : -9223372036854775808 ≤ c) (hc2 : c ≤ 9223372036854775807) :
    Calls Tryz.prog 94 #[.pointer (some ⟨M, 0, none⟩), .agg #[.int .i64 4, .int .i64 a, .int .i64 b, .int .i64 c]] w (DoR N M base p s0 4 a b c w) := by
  have hmx : Tryz.prog.follows .mixedOrders = true := by kernel_rfl
  have HP := hid h
  have hp3 := h.p3
  have hp4 := h.p4
  obtain ⟨hpc0, hpc1⟩ := h.pc
  obtain ⟨hfp0, hfp1⟩ := h.fp
  obtain ⟨hap0, hap1⟩ := h.ap
  obtain ⟨hrv0, hrv1⟩ := h.rv
  have hMl := h.mac.get.2.2.2.2.2.2
  obtain ⟨v0, hv0⟩ : ∃ v, w.rowIs M 207 14 (rmv p v s0) := by obtain ⟨_, v, hr, _⟩ := h.mac; exact ⟨v, hr⟩
  obtain ⟨V1, hV1⟩ : ∃ V1, V1 = w.alloc (.cells #[.int .i64 4, .int .i64 a, .int .i64 b, .int .i64 c] 52) := ⟨_, rfl⟩
  obtain ⟨V2, hV2⟩ : ∃ V2, V2 = V1.alloc (.cells #[.int .i64 0, .int .i64 0, .int .i64 0, .int .i64 0, .int .i64 0, .int .i64 0, .int .i64 0, .int .i64 0, .int .i64 0, .int .i64 0] 135) := ⟨_, rfl⟩
  obtain ⟨V3, hV3⟩ : ∃ V3, V3 = V2.alloc (.cells #[.int .i64 s0.pc, .int .i64 s0.fp, .int .i64 s0.ap, .int .i64 s0.rv, .int .i64 (s0.at' 0), .int .i64 (s0.at' 1), .int .i64 (s0.at' 2), .int .i64 (s0.is' 0), .int .i64 (s0.is' 1), .int .i64 (s0.is' 2)] 135) := ⟨_, rfl⟩
  have z1 : V1.heap.size = w.heap.size + 1 := by rw [hV1]; simp
  have z2 : V2.heap.size = w.heap.size + 2 := by rw [hV2]; simp [z1]
  have b1 : Below w.heap.size w V1 := by rw [hV1]; exact (Below.refl _ _).alloc (Nat.le_refl _) _
  have b2 : Below V1.heap.size V1 V2 := by rw [hV2]; exact (Below.refl _ _).alloc (Nat.le_refl _) _
  have b3 : Below V2.heap.size V2 V3 := by rw [hV3]; exact (Below.refl _ _).alloc (Nat.le_refl _) _
  have b12 : Below w.heap.size w V2 := b1.trans (b2.mono (by omega))
  have b13 : Below w.heap.size w V3 := b12.trans (b3.mono (by omega))
  have r2 := hv0.of_block (b12.block M hMl)
  have k2 : V2.cell? ⟨M, 2, none⟩ = some (.int .i64 s0.pc) := r2.cell (i := 2) (by decide)
  have k3 : V2.cell? ⟨M, 3, none⟩ = some (.int .i64 s0.fp) := r2.cell (i := 3) (by decide)
  have k4 : V2.cell? ⟨M, 4, none⟩ = some (.int .i64 s0.ap) := r2.cell (i := 4) (by decide)
  have k5 : V2.cell? ⟨M, 5, none⟩ = some (.int .i64 s0.rv) := r2.cell (i := 5) (by decide)
  have k6 : V2.cell? ⟨M, 6, none⟩ = some (.int .i64 (s0.at' 0)) := r2.cell (i := 6) (by decide)
  have k7 : V2.cell? ⟨M, 7, none⟩ = some (.int .i64 (s0.at' 1)) := r2.cell (i := 7) (by decide)
  have k8 : V2.cell? ⟨M, 8, none⟩ = some (.int .i64 (s0.at' 2)) := r2.cell (i := 8) (by decide)
  have k9 : V2.cell? ⟨M, 9, none⟩ = some (.int .i64 (s0.is' 0)) := r2.cell (i := 9) (by decide)
  have k10 : V2.cell? ⟨M, 10, none⟩ = some (.int .i64 (s0.is' 1)) := r2.cell (i := 10) (by decide)
  have k11 : V2.cell? ⟨M, 11, none⟩ = some (.int .i64 (s0.is' 2)) := r2.cell (i := 11) (by decide)
  have HD0 : Hid (DoS N M base p w.heap.size s0 s0 4 a b c ⟨s0.pc, s0.fp, s0.ap, s0.rv⟩ w V3) := by
    refine ⟨h.mac.below b13, (b3.block _ (by omega)).trans ((b2.block _ (by omega)).trans (by rw [hV1]; exact heap_alloc_new w _)), ?_, ?_, FrM.below (by have := h.hN; omega) b13, rfl, hMl, h.hN⟩
    · refine World.rowIs.of_block ?_ (b3.block _ (by omega))
      rw [← z1, hV2]
      exact row_newM V1 _ _ 10 _ rfl (fun i hi => by rcases ten hi with rfl | rfl | rfl | rfl | rfl | rfl | rfl | rfl | rfl | rfl <;> rfl)
    · rw [← z2, hV3]
      exact row_newM V2 _ _ 10 _ rfl (fun i hi => by rcases ten hi with rfl | rfl | rfl | rfl | rfl | rfl | rfl | rfl | rfl | rfl <;> rfl)
  have HADD := hid (fun (x y : Int) (W : World) (x1 : -9223372036854775808 ≤ x) (x2 : x ≤ 9223372036854775807) (y1 : -9223372036854775808 ≤ y) (y2 : y ≤ 9223372036854775807) => radd_any p x y W hp3 hp4 x1 x2 y1 y2)
  obtain ⟨B, hB⟩ : ∃ B, B = w.heap.size := ⟨_, rfl⟩
  have HBB := hid hB
  rw [← hB] at HD0
  obtain ⟨pc1, hpc'⟩ : ∃ pc1, pc1 = (s0.pc + 1) % (p : Int) := ⟨_, rfl⟩
  have HPC := hid hpc'
  obtain ⟨fa, hfa⟩ : ∃ fa, fa = (s0.fp + a) % (p : Int) := ⟨_, rfl⟩
  obtain ⟨fb, hfb⟩ : ∃ fb, fb = (s0.fp + b) % (p : Int) := ⟨_, rfl⟩
  obtain ⟨fc, hfc⟩ : ∃ fc, fc = (s0.fp + c) % (p : Int) := ⟨_, rfl⟩
  have HFA := hid (⟨hfa, hfb, hfc⟩ : fa = (s0.fp + a) % (p : Int) ∧ fb = (s0.fp + b) % (p : Int) ∧ fc = (s0.fp + c) % (p : Int))
  have HFR : Hid ((0 ≤ fa ∧ fa < p) ∧ (0 ≤ fb ∧ fb < p) ∧ (0 ≤ fc ∧ fc < p) ∧ (0 ≤ pc1 ∧ pc1 < p)) := by unfold Hid; rw [hfa, hfb, hfc, hpc']; exact ⟨emod_bounds _ p hp3, emod_bounds _ p hp3, emod_bounds _ p hp3, emod_bounds _ p hp3⟩
  have HAP : Hid (∀ W : World, Calls Tryz.prog 138 #[.int .i64 p, .int .i64 s0.pc, .int .i64 1] W fun e w' => e = .returned (.int .i64 pc1) ∧ w' = W) := fun W => by rw [hpc']; exact HADD.out _ _ W (by omega) (by omega) (by omega) (by omega)
  have HAA : Hid (∀ W : World, Calls Tryz.prog 138 #[.int .i64 p, .int .i64 s0.fp, .int .i64 a] W fun e w' => e = .returned (.int .i64 fa) ∧ w' = W) := fun W => by rw [hfa]; exact HADD.out _ _ W (by omega) (by omega) ha1 ha2
  have HAB : Hid (∀ W : World, Calls Tryz.prog 138 #[.int .i64 p, .int .i64 s0.fp, .int .i64 b] W fun e w' => e = .returned (.int .i64 fb) ∧ w' = W) := fun W => by rw [hfb]; exact HADD.out _ _ W (by omega) (by omega) hb1 hb2
  have HAC : Hid (∀ W : World, Calls Tryz.prog 138 #[.int .i64 p, .int .i64 s0.fp, .int .i64 c] W fun e w' => e = .returned (.int .i64 fc) ∧ w' = W) := fun W => by rw [hfc]; exact HADD.out _ _ W (by omega) (by omega) hc1 hc2
  have hz2 : V2.heap.size = B + 2 := by rw [hB]; exact z2
  have hz1 : V1.heap.size = B + 1 := by rw [hB]; exact z1
  have hz0 : w.heap.size = B := hB.symm
  clear h hv0 z1 z2 b1 b2 b3 b12 b13 r2 hB hpc' hfa hfb hfc
  rw [hV2, hV1] at k2 k3 k4 k5 k6 k7 k8 k9 k10 k11
  rw [hV2, hV1] at hV3
  clear hV2 hV1 hz2 hz1 V1 V2
  go_enter Tryz.func94, Tryz.ntmps94
  go_wp2_with fail
  rw [← hV3]
  clear hV3 k2 k3 k4 k5 k6 k7 k8 k9 k10 k11
  rw [show B + 1 + 1 = B + 2 from rfl]
  obtain ⟨c0, c2, c3, c4, c5, c13, _⟩ := HD0.out.mac.get
  have q0 : V3.cell? ⟨B + 2, 0, none⟩ = some (.int .i64 s0.pc) := HD0.out.nw.cell (i := 0) (by decide)
  have qf := HD0.out.nw.frozen
  have HD1 := hid ((HD0.out.put 0 (.int .i64 pc1) (stv_pc _ _ _)).drew)
  go_still_tail 11, hmx
  still_call (HAP.out _)
  (repeat still_step)
  refine wpStill_nil ?_
  go_wp2_with fail
  clear q0 qf c0 c2 c3 c4 c5 c13 HD0
  generalize (V3.setCell ⟨B + 2, 0, none⟩ (.int .i64 pc1)).drew = V4 at *
  obtain ⟨c0, c2, c3, c4, c5, c13, _⟩ := HD1.out.mac.get
  have i0 := fourM0 HD1.out.ins
  have i1 := fourM1 HD1.out.ins
  have i2 := fourM2 HD1.out.ins
  have i3 := fourM3 HD1.out.ins
  go_wp2_with fail
  go_quiet (first | (go_at_call 138; exact Calls.quiet_of_same (HAA.out _)))
  have HD2 := hid (HD1.out.step (belM V4 nq))
  clear c0 c2 c3 c4 c5 c13 i0 i1 i2 i3 HD1
  generalize V4.drewN nq = V5 at *
  obtain ⟨c0, c2, c3, c4, c5, c13, _⟩ := HD2.out.mac.get
  have i0 := fourM0 HD2.out.ins
  have i1 := fourM1 HD2.out.ins
  have i2 := fourM2 HD2.out.ins
  have i3 := fourM3 HD2.out.ins
  go_wp2_with fail
  go_quiet (first | (go_at_call 138; exact Calls.quiet_of_same (HAB.out _)))
  have HD3 := hid (HD2.out.step (belM V5 nq))
  clear c0 c2 c3 c4 c5 c13 i0 i1 i2 i3 HD2
  generalize V5.drewN nq = V6 at *
  obtain ⟨c0, c2, c3, c4, c5, c13, _⟩ := HD3.out.mac.get
  have i0 := fourM0 HD3.out.ins
  have i1 := fourM1 HD3.out.ins
  have i2 := fourM2 HD3.out.ins
  have i3 := fourM3 HD3.out.ins
  go_wp2_with fail
  go_quiet (first | (go_at_call 138; exact Calls.quiet_of_same (HAC.out _)))
  have HD4 := hid (HD3.out.step (belM V6 nq))
  clear c0 c2 c3 c4 c5 c13 i0 i1 i2 i3 HD3
  generalize V6.drewN nq = V7 at *
  obtain ⟨c0, c2, c3, c4, c5, c13, _⟩ := HD4.out.mac.get
  have i0 := fourM0 HD4.out.ins
  have i1 := fourM1 HD4.out.ins
  have i2 := fourM2 HD4.out.ins
  have i3 := fourM3 HD4.out.ins
  go_wp2_with fail
  have OK0 : Hid (SOk p 900000 0 s0) := ⟨HP.out.cs, HP.out.len, fun _ => by rw [HP.out.slot]; exact Nat.le_refl _⟩
  have HC1 := hid (rlook_any N M base p s0 fa V7 HD4.out.mac HP.out.hN (by have := OK0.out.2.1; omega) (fun hh => by have := OK0.out.2.2 hh; omega))
  obtain ⟨s1, hs1⟩ : ∃ s1, s1 = (s0.look fa).1 := ⟨_, rfl⟩
  obtain ⟨x1, hx1⟩ : ∃ x1, x1 = (s0.look fa).2 := ⟨_, rfl⟩
  rw [← hs1, ← hx1] at HC1
  have OK1' := look_ok hp3 OK0.out fa
  rw [← hs1, ← hx1] at OK1'
  have OK1 := hid OK1'.1
  obtain ⟨xl1, xu1⟩ := OK1'.2
  have HS1 := hid hs1
  have HX1 := hid hx1
  clear OK1' hs1 hx1
  refine HC1.out.mono ?_
  rintro e W8 ⟨rfl, hm, hf⟩
  have HD5 := hid (HD4.out.mach hm hf)
  clear hm hf HC1 HD4
  clear c0 c2 c3 c4 c5 c13 i0 i1 i2 i3
  obtain ⟨c0, c2, c3, c4, c5, c13, _⟩ := HD5.out.mac.get
  have i0 := fourM0 HD5.out.ins
  have i1 := fourM1 HD5.out.ins
  have i2 := fourM2 HD5.out.ins
  have i3 := fourM3 HD5.out.ins
  go_wp2_with fail
  have HC2 := hid (rlook_any N M base p s1 fb W8 HD5.out.mac HP.out.hN (by have := OK1.out.2.1; omega) (fun hh => by have := OK1.out.2.2 hh; omega))
  obtain ⟨s2, hs2⟩ : ∃ s2, s2 = (s1.look fb).1 := ⟨_, rfl⟩
  obtain ⟨x2, hx2⟩ : ∃ x2, x2 = (s1.look fb).2 := ⟨_, rfl⟩
  rw [← hs2, ← hx2] at HC2
  have OK2' := look_ok hp3 OK1.out fb
  rw [← hs2, ← hx2] at OK2'
  have OK2 := hid OK2'.1
  obtain ⟨xl2, xu2⟩ := OK2'.2
  have HS2 := hid hs2
  have HX2 := hid hx2
  clear OK2' hs2 hx2
  refine HC2.out.mono ?_
  rintro e W9 ⟨rfl, hm, hf⟩
  have HD6 := hid (HD5.out.mach hm hf)
  clear hm hf HC2 HD5
  clear c0 c2 c3 c4 c5 c13 i0 i1 i2 i3
  obtain ⟨c0, c2, c3, c4, c5, c13, _⟩ := HD6.out.mac.get
  have i0 := fourM0 HD6.out.ins
  have i1 := fourM1 HD6.out.ins
  have i2 := fourM2 HD6.out.ins
  have i3 := fourM3 HD6.out.ins
  go_wp2_with fail
  have HC3 := hid (rreck_any N M base p s2 4 x1 x2 W9 HD6.out.mac HP.out.hN hp3 hp4 (.inr (.inr (.inr (.inl rfl)))) xl1 xu1 xl2 xu2)
  obtain ⟨s3, hs3⟩ : ∃ s3, s3 = s2.rck 4 x2 := ⟨_, rfl⟩
  obtain ⟨x3, hx3⟩ : ∃ x3, x3 = rkn p 4 x1 x2 := ⟨_, rfl⟩
  rw [← hs3, ← hx3] at HC3
  have OK3' := rck_ok OK2.out 4 x2
  rw [← hs3] at OK3'
  have OK3 := hid OK3'
  have HS3 := hid hs3
  have HX3 := hid hx3
  clear OK3' hs3 hx3
  obtain ⟨xl3, xu3⟩ : 0 ≤ x3 ∧ x3 < p := by rw [HX3.out]; exact rkn_bounds hp3 _ _ _
  refine HC3.out.mono ?_
  rintro e W10 ⟨rfl, hm, hf⟩
  have HD7 := hid (HD6.out.mach hm hf)
  clear hm hf HC3 HD6
  clear c0 c2 c3 c4 c5 c13 i0 i1 i2 i3
  obtain ⟨c0, c2, c3, c4, c5, c13, _⟩ := HD7.out.mac.get
  have i0 := fourM0 HD7.out.ins
  have i1 := fourM1 HD7.out.ins
  have i2 := fourM2 HD7.out.ins
  have i3 := fourM3 HD7.out.ins
  go_wp2_with fail
  have HC4 := hid (rtell_any N M base p s3 fc x3 W10 HD7.out.mac HP.out.hN HP.out.nb hp3 hp4 (by omega) (by omega) (by have := OK3.out.2.1; omega) (fun hh => by have := OK3.out.2.2 hh; omega))
  obtain ⟨s4, hs4⟩ : ∃ s4, s4 = s3.tell p fc x3 := ⟨_, rfl⟩
  rw [← hs4] at HC4
  have OK4' := tell_ok hp3 OK3.out fc x3
  rw [← hs4] at OK4'
  have OK4 := hid OK4'
  have HS4 := hid hs4
  clear OK4' hs4
  refine HC4.out.mono ?_
  rintro e W11 ⟨rfl, hm, hf⟩
  have HD8 := hid (HD7.out.mach hm hf)
  clear hm hf HC4 HD7
  clear c0 c2 c3 c4 c5 c13 i0 i1 i2 i3
  obtain ⟨c0, c2, c3, c4, c5, c13, _⟩ := HD8.out.mac.get
  have i0 := fourM0 HD8.out.ins
  have i1 := fourM1 HD8.out.ins
  have i2 := fourM2 HD8.out.ins
  have i3 := fourM3 HD8.out.ins
  clear c0 c2 c3 c4 c5 c13 i0 i1 i2 i3
  have q0 : W11.cell? ⟨B + 2, 0, none⟩ = some (.int .i64 pc1) := HD8.out.nw.cell (i := 0) (by decide)
  have q1 : W11.cell? ⟨B + 2, 1, none⟩ = some (.int .i64 s0.fp) := HD8.out.nw.cell (i := 1) (by decide)
  have q2 : W11.cell? ⟨B + 2, 2, none⟩ = some (.int .i64 s0.ap) := HD8.out.nw.cell (i := 2) (by decide)
  have q3 : W11.cell? ⟨B + 2, 3, none⟩ = some (.int .i64 s0.rv) := HD8.out.nw.cell (i := 3) (by decide)
  have q4 : W11.cell? ⟨B + 2, 4, none⟩ = some (.int .i64 (s0.at' 0)) := HD8.out.nw.cell (i := 4) (by decide)
  have q5 : W11.cell? ⟨B + 2, 5, none⟩ = some (.int .i64 (s0.at' 1)) := HD8.out.nw.cell (i := 5) (by decide)
  have q6 : W11.cell? ⟨B + 2, 6, none⟩ = some (.int .i64 (s0.at' 2)) := HD8.out.nw.cell (i := 6) (by decide)
  have q7 : W11.cell? ⟨B + 2, 7, none⟩ = some (.int .i64 (s0.is' 0)) := HD8.out.nw.cell (i := 7) (by decide)
  have q8 : W11.cell? ⟨B + 2, 8, none⟩ = some (.int .i64 (s0.is' 1)) := HD8.out.nw.cell (i := 8) (by decide)
  have q9 : W11.cell? ⟨B + 2, 9, none⟩ = some (.int .i64 (s0.is' 2)) := HD8.out.nw.cell (i := 9) (by decide)
  have r0 : W11.cell? ⟨B + 1, 0, none⟩ = some (.int .i64 0) := HD8.out.res.cell (i := 0) (by decide)
  have r1 : W11.cell? ⟨B + 1, 1, none⟩ = some (.int .i64 0) := HD8.out.res.cell (i := 1) (by decide)
  have r2 : W11.cell? ⟨B + 1, 2, none⟩ = some (.int .i64 0) := HD8.out.res.cell (i := 2) (by decide)
  have r3 : W11.cell? ⟨B + 1, 3, none⟩ = some (.int .i64 0) := HD8.out.res.cell (i := 3) (by decide)
  have r4 : W11.cell? ⟨B + 1, 4, none⟩ = some (.int .i64 0) := HD8.out.res.cell (i := 4) (by decide)
  have r5 : W11.cell? ⟨B + 1, 5, none⟩ = some (.int .i64 0) := HD8.out.res.cell (i := 5) (by decide)
  have r6 : W11.cell? ⟨B + 1, 6, none⟩ = some (.int .i64 0) := HD8.out.res.cell (i := 6) (by decide)
  have r7 : W11.cell? ⟨B + 1, 7, none⟩ = some (.int .i64 0) := HD8.out.res.cell (i := 7) (by decide)
  have r8 : W11.cell? ⟨B + 1, 8, none⟩ = some (.int .i64 0) := HD8.out.res.cell (i := 8) (by decide)
  have r9 : W11.cell? ⟨B + 1, 9, none⟩ = some (.int .i64 0) := HD8.out.res.cell (i := 9) (by decide)
  have rf := HD8.out.res.frozen
  have hgv := HD8.out.give
  simp only [put10, stv] at hgv
  have HGV := hid hgv
  clear hgv
  clear HD8
  go_wp2_with fail
  (try simp only [Exit.inBlock, Exit.then])
  refine bodyPost_ret (results_cell_row rfl _ _ (B + 1) 135 #[.int .i64 pc1, .int .i64 s0.fp, .int .i64 s0.ap, .int .i64 s0.rv, .int .i64 (s0.at' 0), .int .i64 (s0.at' 1), .int .i64 (s0.at' 2), .int .i64 (s0.is' 0), .int .i64 (s0.is' 1), .int .i64 (s0.is' 2)] (0, 0) _ rfl HGV.out.1 Tryz.underlying135 rfl (by kernel_rfl)) rfl ?_
  have hst : s0.step p 4 a b c = (s4, ⟨pc1, s0.fp, s0.ap, s0.rv⟩) := by
    have e0 := HX1.out
    have e1 := HS1.out
    have e2 := HX2.out
    have e3 := HS2.out
    have e4 := HX3.out
    have e5 := HS3.out
    have e6 := HS4.out
    obtain ⟨h1, h2, h3⟩ := HFA.out
    have h4 := HPC.out
    subst h1 h2 h3 h4
    subst e6
    subst e5
    subst e4
    subst e3
    subst e2
    subst e1
    subst e0
    simp [RM.step, RM.three]
  unfold DoR
  rw [hst]
  exact ⟨rfl, HGV.out.2⟩

end Go.Proofs.YtaibngnabhmabajGreatDoor

namespace Go.Proofs.YtaibngnabhmabajGreatDoor
open Go.RowKit

set_option maxRecDepth 100000 in
set_option maxHeartbeats 4000000 in
theorem do_same (N M base p : Nat) (s0 : RM) (a b c : Int) (w : World) (h : DoP N M base p s0 w) (ha1 : -9223372036854775808 ≤ a) (ha2 : a ≤ 9223372036854775807) (hb1 : -9223372036854775808 ≤ b) (hb2 : b ≤ 9223372036854775807) (hc1 : -9223372036854775808 ≤ c) (hc2 : c ≤ 9223372036854775807) :
    Calls Tryz.prog 94 #[.pointer (some ⟨M, 0, none⟩), .agg #[.int .i64 6, .int .i64 a, .int .i64 b, .int .i64 c]] w (DoR N M base p s0 6 a b c w) := by
  have hmx : Tryz.prog.follows .mixedOrders = true := by kernel_rfl
  have HP := hid h
  have hp3 := h.p3
  have hp4 := h.p4
  obtain ⟨hpc0, hpc1⟩ := h.pc
  obtain ⟨hfp0, hfp1⟩ := h.fp
  obtain ⟨hap0, hap1⟩ := h.ap
  obtain ⟨hrv0, hrv1⟩ := h.rv
  have hMl := h.mac.get.2.2.2.2.2.2
  obtain ⟨v0, hv0⟩ : ∃ v, w.rowIs M 207 14 (rmv p v s0) := by obtain ⟨_, v, hr, _⟩ := h.mac; exact ⟨v, hr⟩
  obtain ⟨V1, hV1⟩ : ∃ V1, V1 = w.alloc (.cells #[.int .i64 6, .int .i64 a, .int .i64 b, .int .i64 c] 52) := ⟨_, rfl⟩
  obtain ⟨V2, hV2⟩ : ∃ V2, V2 = V1.alloc (.cells #[.int .i64 0, .int .i64 0, .int .i64 0, .int .i64 0, .int .i64 0, .int .i64 0, .int .i64 0, .int .i64 0, .int .i64 0, .int .i64 0] 135) := ⟨_, rfl⟩
  obtain ⟨V3, hV3⟩ : ∃ V3, V3 = V2.alloc (.cells #[.int .i64 s0.pc, .int .i64 s0.fp, .int .i64 s0.ap, .int .i64 s0.rv, .int .i64 (s0.at' 0), .int .i64 (s0.at' 1), .int .i64 (s0.at' 2), .int .i64 (s0.is' 0), .int .i64 (s0.is' 1), .int .i64 (s0.is' 2)] 135) := ⟨_, rfl⟩
  have z1 : V1.heap.size = w.heap.size + 1 := by rw [hV1]; simp
  have z2 : V2.heap.size = w.heap.size + 2 := by rw [hV2]; simp [z1]
  have b1 : Below w.heap.size w V1 := by rw [hV1]; exact (Below.refl _ _).alloc (Nat.le_refl _) _
  have b2 : Below V1.heap.size V1 V2 := by rw [hV2]; exact (Below.refl _ _).alloc (Nat.le_refl _) _
  have b3 : Below V2.heap.size V2 V3 := by rw [hV3]; exact (Below.refl _ _).alloc (Nat.le_refl _) _
  have b12 : Below w.heap.size w V2 := b1.trans (b2.mono (by omega))
  have b13 : Below w.heap.size w V3 := b12.trans (b3.mono (by omega))
  have r2 := hv0.of_block (b12.block M hMl)
  have k2 : V2.cell? ⟨M, 2, none⟩ = some (.int .i64 s0.pc) := r2.cell (i := 2) (by decide)
  have k3 : V2.cell? ⟨M, 3, none⟩ = some (.int .i64 s0.fp) := r2.cell (i := 3) (by decide)
  have k4 : V2.cell? ⟨M, 4, none⟩ = some (.int .i64 s0.ap) := r2.cell (i := 4) (by decide)
  have k5 : V2.cell? ⟨M, 5, none⟩ = some (.int .i64 s0.rv) := r2.cell (i := 5) (by decide)
  have k6 : V2.cell? ⟨M, 6, none⟩ = some (.int .i64 (s0.at' 0)) := r2.cell (i := 6) (by decide)
  have k7 : V2.cell? ⟨M, 7, none⟩ = some (.int .i64 (s0.at' 1)) := r2.cell (i := 7) (by decide)
  have k8 : V2.cell? ⟨M, 8, none⟩ = some (.int .i64 (s0.at' 2)) := r2.cell (i := 8) (by decide)
  have k9 : V2.cell? ⟨M, 9, none⟩ = some (.int .i64 (s0.is' 0)) := r2.cell (i := 9) (by decide)
  have k10 : V2.cell? ⟨M, 10, none⟩ = some (.int .i64 (s0.is' 1)) := r2.cell (i := 10) (by decide)
  have k11 : V2.cell? ⟨M, 11, none⟩ = some (.int .i64 (s0.is' 2)) := r2.cell (i := 11) (by decide)
  have HD0 : Hid (DoS N M base p w.heap.size s0 s0 6 a b c ⟨s0.pc, s0.fp, s0.ap, s0.rv⟩ w V3) := by
    refine ⟨h.mac.below b13, (b3.block _ (by omega)).trans ((b2.block _ (by omega)).trans (by rw [hV1]; exact heap_alloc_new w _)), ?_, ?_, FrM.below (by have := h.hN; omega) b13, rfl, hMl, h.hN⟩
    · refine World.rowIs.of_block ?_ (b3.block _ (by omega))
      rw [← z1, hV2]
      exact row_newM V1 _ _ 10 _ rfl (fun i hi => by rcases ten hi with rfl | rfl | rfl | rfl | rfl | rfl | rfl | rfl | rfl | rfl <;> rfl)
    · rw [← z2, hV3]
      exact row_newM V2 _ _ 10 _ rfl (fun i hi => by rcases ten hi with rfl | rfl | rfl | rfl | rfl | rfl | rfl | rfl | rfl | rfl <;> rfl)
  have HADD := hid (fun (x y : Int) (W : World) (x1 : -9223372036854775808 ≤ x) (x2 : x ≤ 9223372036854775807) (y1 : -9223372036854775808 ≤ y) (y2 : y ≤ 9223372036854775807) => radd_any p x y W hp3 hp4 x1 x2 y1 y2)
  obtain ⟨B, hB⟩ : ∃ B, B = w.heap.size := ⟨_, rfl⟩
  have HBB := hid hB
  rw [← hB] at HD0
  obtain ⟨pc1, hpc'⟩ : ∃ pc1, pc1 = (s0.pc + 1) % (p : Int) := ⟨_, rfl⟩
  have HPC := hid hpc'
  obtain ⟨fa, hfa⟩ : ∃ fa, fa = (s0.fp + a) % (p : Int) := ⟨_, rfl⟩
  obtain ⟨fb, hfb⟩ : ∃ fb, fb = (s0.fp + b) % (p : Int) := ⟨_, rfl⟩
  obtain ⟨fc, hfc⟩ : ∃ fc, fc = (s0.fp + c) % (p : Int) := ⟨_, rfl⟩
  have HFA := hid (⟨hfa, hfb, hfc⟩ : fa = (s0.fp + a) % (p : Int) ∧ fb = (s0.fp + b) % (p : Int) ∧ fc = (s0.fp + c) % (p : Int))
  have HFR : Hid ((0 ≤ fa ∧ fa < p) ∧ (0 ≤ fb ∧ fb < p) ∧ (0 ≤ fc ∧ fc < p) ∧ (0 ≤ pc1 ∧ pc1 < p)) := by unfold Hid; rw [hfa, hfb, hfc, hpc']; exact ⟨emod_bounds _ p hp3, emod_bounds _ p hp3, emod_bounds _ p hp3, emod_bounds _ p hp3⟩
  have HAP : Hid (∀ W : World, Calls Tryz.prog 138 #[.int .i64 p, .int .i64 s0.pc, .int .i64 1] W fun e w' => e = .returned (.int .i64 pc1) ∧ w' = W) := fun W => by rw [hpc']; exact HADD.out _ _ W (by omega) (by omega) (by omega) (by omega)
  have HAA : Hid (∀ W : World, Calls Tryz.prog 138 #[.int .i64 p, .int .i64 s0.fp, .int .i64 a] W fun e w' => e = .returned (.int .i64 fa) ∧ w' = W) := fun W => by rw [hfa]; exact HADD.out _ _ W (by omega) (by omega) ha1 ha2
  have HAB : Hid (∀ W : World, Calls Tryz.prog 138 #[.int .i64 p, .int .i64 s0.fp, .int .i64 b] W fun e w' => e = .returned (.int .i64 fb) ∧ w' = W) := fun W => by rw [hfb]; exact HADD.out _ _ W (by omega) (by omega) hb1 hb2
  have HAC : Hid (∀ W : World, Calls Tryz.prog 138 #[.int .i64 p, .int .i64 s0.fp, .int .i64 c] W fun e w' => e = .returned (.int .i64 fc) ∧ w' = W) := fun W => by rw [hfc]; exact HADD.out _ _ W (by omega) (by omega) hc1 hc2
  have hz2 : V2.heap.size = B + 2 := by rw [hB]; exact z2
  have hz1 : V1.heap.size = B + 1 := by rw [hB]; exact z1
  have hz0 : w.heap.size = B := hB.symm
  clear h hv0 z1 z2 b1 b2 b3 b12 b13 r2 hB hpc' hfa hfb hfc
  rw [hV2, hV1] at k2 k3 k4 k5 k6 k7 k8 k9 k10 k11
  rw [hV2, hV1] at hV3
  clear hV2 hV1 hz2 hz1 V1 V2
  go_enter Tryz.func94, Tryz.ntmps94
  go_wp2_with fail
  rw [← hV3]
  clear hV3 k2 k3 k4 k5 k6 k7 k8 k9 k10 k11
  rw [show B + 1 + 1 = B + 2 from rfl]
  obtain ⟨c0, c2, c3, c4, c5, c13, _⟩ := HD0.out.mac.get
  have q0 : V3.cell? ⟨B + 2, 0, none⟩ = some (.int .i64 s0.pc) := HD0.out.nw.cell (i := 0) (by decide)
  have qf := HD0.out.nw.frozen
  have HD1 := hid ((HD0.out.put 0 (.int .i64 pc1) (stv_pc _ _ _)).drew)
  go_still_tail 11, hmx
  still_call (HAP.out _)
  (repeat still_step)
  refine wpStill_nil ?_
  go_wp2_with fail
  clear q0 qf c0 c2 c3 c4 c5 c13 HD0
  generalize (V3.setCell ⟨B + 2, 0, none⟩ (.int .i64 pc1)).drew = V4 at *
  obtain ⟨c0, c2, c3, c4, c5, c13, _⟩ := HD1.out.mac.get
  have i0 := fourM0 HD1.out.ins
  have i1 := fourM1 HD1.out.ins
  have i2 := fourM2 HD1.out.ins
  have i3 := fourM3 HD1.out.ins
  go_wp2_with fail
  go_quiet (first | (go_at_call 138; exact Calls.quiet_of_same (HAA.out _)))
  have HD2 := hid (HD1.out.step (belM V4 nq))
  clear c0 c2 c3 c4 c5 c13 i0 i1 i2 i3 HD1
  generalize V4.drewN nq = V5 at *
  obtain ⟨c0, c2, c3, c4, c5, c13, _⟩ := HD2.out.mac.get
  have i0 := fourM0 HD2.out.ins
  have i1 := fourM1 HD2.out.ins
  have i2 := fourM2 HD2.out.ins
  have i3 := fourM3 HD2.out.ins
  go_wp2_with fail
  go_quiet (first | (go_at_call 138; exact Calls.quiet_of_same (HAB.out _)))
  have HD3 := hid (HD2.out.step (belM V5 nq))
  clear c0 c2 c3 c4 c5 c13 i0 i1 i2 i3 HD2
  generalize V5.drewN nq = V6 at *
  obtain ⟨c0, c2, c3, c4, c5, c13, _⟩ := HD3.out.mac.get
  have i0 := fourM0 HD3.out.ins
  have i1 := fourM1 HD3.out.ins
  have i2 := fourM2 HD3.out.ins
  have i3 := fourM3 HD3.out.ins
  go_wp2_with fail
  go_quiet (first | (go_at_call 138; exact Calls.quiet_of_same (HAC.out _)))
  have HD4 := hid (HD3.out.step (belM V6 nq))
  clear c0 c2 c3 c4 c5 c13 i0 i1 i2 i3 HD3
  generalize V6.drewN nq = V7 at *
  obtain ⟨c0, c2, c3, c4, c5, c13, _⟩ := HD4.out.mac.get
  have i0 := fourM0 HD4.out.ins
  have i1 := fourM1 HD4.out.ins
  have i2 := fourM2 HD4.out.ins
  have i3 := fourM3 HD4.out.ins
  go_wp2_with fail
  have OK0 : Hid (SOk p 900000 0 s0) := ⟨HP.out.cs, HP.out.len, fun _ => by rw [HP.out.slot]; exact Nat.le_refl _⟩
  have HC1 := hid (rlook_any N M base p s0 fa V7 HD4.out.mac HP.out.hN (by have := OK0.out.2.1; omega) (fun hh => by have := OK0.out.2.2 hh; omega))
  obtain ⟨s1, hs1⟩ : ∃ s1, s1 = (s0.look fa).1 := ⟨_, rfl⟩
  obtain ⟨x1, hx1⟩ : ∃ x1, x1 = (s0.look fa).2 := ⟨_, rfl⟩
  rw [← hs1, ← hx1] at HC1
  have OK1' := look_ok hp3 OK0.out fa
  rw [← hs1, ← hx1] at OK1'
  have OK1 := hid OK1'.1
  obtain ⟨xl1, xu1⟩ := OK1'.2
  have HS1 := hid hs1
  have HX1 := hid hx1
  clear OK1' hs1 hx1
  refine HC1.out.mono ?_
  rintro e W8 ⟨rfl, hm, hf⟩
  have HD5 := hid (HD4.out.mach hm hf)
  clear hm hf HC1 HD4
  clear c0 c2 c3 c4 c5 c13 i0 i1 i2 i3
  obtain ⟨c0, c2, c3, c4, c5, c13, _⟩ := HD5.out.mac.get
  have i0 := fourM0 HD5.out.ins
  have i1 := fourM1 HD5.out.ins
  have i2 := fourM2 HD5.out.ins
  have i3 := fourM3 HD5.out.ins
  go_wp2_with fail
  have HC2 := hid (rlook_any N M base p s1 fb W8 HD5.out.mac HP.out.hN (by have := OK1.out.2.1; omega) (fun hh => by have := OK1.out.2.2 hh; omega))
  obtain ⟨s2, hs2⟩ : ∃ s2, s2 = (s1.look fb).1 := ⟨_, rfl⟩
  obtain ⟨x2, hx2⟩ : ∃ x2, x2 = (s1.look fb).2 := ⟨_, rfl⟩
  rw [← hs2, ← hx2] at HC2
  have OK2' := look_ok hp3 OK1.out fb
  rw [← hs2, ← hx2] at OK2'
  have OK2 := hid OK2'.1
  obtain ⟨xl2, xu2⟩ := OK2'.2
  have HS2 := hid hs2
  have HX2 := hid hx2
  clear OK2' hs2 hx2
  refine HC2.out.mono ?_
  rintro e W9 ⟨rfl, hm, hf⟩
  have HD6 := hid (HD5.out.mach hm hf)
  clear hm hf HC2 HD5
  clear c0 c2 c3 c4 c5 c13 i0 i1 i2 i3
  obtain ⟨c0, c2, c3, c4, c5, c13, _⟩ := HD6.out.mac.get
  have i0 := fourM0 HD6.out.ins
  have i1 := fourM1 HD6.out.ins
  have i2 := fourM2 HD6.out.ins
  have i3 := fourM3 HD6.out.ins
  go_wp2_with fail
  have HC3 := hid (rreck_any N M base p s2 6 x1 x2 W9 HD6.out.mac HP.out.hN hp3 hp4 (.inr (.inr (.inr (.inr rfl)))) xl1 xu1 xl2 xu2)
  obtain ⟨s3, hs3⟩ : ∃ s3, s3 = s2.rck 6 x2 := ⟨_, rfl⟩
  obtain ⟨x3, hx3⟩ : ∃ x3, x3 = rkn p 6 x1 x2 := ⟨_, rfl⟩
  rw [← hs3, ← hx3] at HC3
  have OK3' := rck_ok OK2.out 6 x2
  rw [← hs3] at OK3'
  have OK3 := hid OK3'
  have HS3 := hid hs3
  have HX3 := hid hx3
  clear OK3' hs3 hx3
  obtain ⟨xl3, xu3⟩ : 0 ≤ x3 ∧ x3 < p := by rw [HX3.out]; exact rkn_bounds hp3 _ _ _
  refine HC3.out.mono ?_
  rintro e W10 ⟨rfl, hm, hf⟩
  have HD7 := hid (HD6.out.mach hm hf)
  clear hm hf HC3 HD6
  clear c0 c2 c3 c4 c5 c13 i0 i1 i2 i3
  obtain ⟨c0, c2, c3, c4, c5, c13, _⟩ := HD7.out.mac.get
  have i0 := fourM0 HD7.out.ins
  have i1 := fourM1 HD7.out.ins
  have i2 := fourM2 HD7.out.ins
  have i3 := fourM3 HD7.out.ins
  go_wp2_with fail
  have HC4 := hid (rtell_any N M base p s3 fc x3 W10 HD7.out.mac HP.out.hN HP.out.nb hp3 hp4 (by omega) (by omega) (by have := OK3.out.2.1; omega) (fun hh => by have := OK3.out.2.2 hh; omega))
  obtain ⟨s4, hs4⟩ : ∃ s4, s4 = s3.tell p fc x3 := ⟨_, rfl⟩
  rw [← hs4] at HC4
  have OK4' := tell_ok hp3 OK3.out fc x3
  rw [← hs4] at OK4'
  have OK4 := hid OK4'
  have HS4 := hid hs4
  clear OK4' hs4
  refine HC4.out.mono ?_
  rintro e W11 ⟨rfl, hm, hf⟩
  have HD8 := hid (HD7.out.mach hm hf)
  clear hm hf HC4 HD7
  clear c0 c2 c3 c4 c5 c13 i0 i1 i2 i3
  obtain ⟨c0, c2, c3, c4, c5, c13, _⟩ := HD8.out.mac.get
  have i0 := fourM0 HD8.out.ins
  have i1 := fourM1 HD8.out.ins
  have i2 := fourM2 HD8.out.ins
  have i3 := fourM3 HD8.out.ins
  clear c0 c2 c3 c4 c5 c13 i0 i1 i2 i3
  have q0 : W11.cell? ⟨B + 2, 0, none⟩ = some (.int .i64 pc1) := HD8.out.nw.cell (i := 0) (by decide)
  have q1 : W11.cell? ⟨B + 2, 1, none⟩ = some (.int .i64 s0.fp) := HD8.out.nw.cell (i := 1) (by decide)
  have q2 : W11.cell? ⟨B + 2, 2, none⟩ = some (.int .i64 s0.ap) := HD8.out.nw.cell (i := 2) (by decide)
  have q3 : W11.cell? ⟨B + 2, 3, none⟩ = some (.int .i64 s0.rv) := HD8.out.nw.cell (i := 3) (by decide)
  have q4 : W11.cell? ⟨B + 2, 4, none⟩ = some (.int .i64 (s0.at' 0)) := HD8.out.nw.cell (i := 4) (by decide)
  have q5 : W11.cell? ⟨B + 2, 5, none⟩ = some (.int .i64 (s0.at' 1)) := HD8.out.nw.cell (i := 5) (by decide)
  have q6 : W11.cell? ⟨B + 2, 6, none⟩ = some (.int .i64 (s0.at' 2)) := HD8.out.nw.cell (i := 6) (by decide)
  have q7 : W11.cell? ⟨B + 2, 7, none⟩ = some (.int .i64 (s0.is' 0)) := HD8.out.nw.cell (i := 7) (by decide)
  have q8 : W11.cell? ⟨B + 2, 8, none⟩ = some (.int .i64 (s0.is' 1)) := HD8.out.nw.cell (i := 8) (by decide)
  have q9 : W11.cell? ⟨B + 2, 9, none⟩ = some (.int .i64 (s0.is' 2)) := HD8.out.nw.cell (i := 9) (by decide)
  have r0 : W11.cell? ⟨B + 1, 0, none⟩ = some (.int .i64 0) := HD8.out.res.cell (i := 0) (by decide)
  have r1 : W11.cell? ⟨B + 1, 1, none⟩ = some (.int .i64 0) := HD8.out.res.cell (i := 1) (by decide)
  have r2 : W11.cell? ⟨B + 1, 2, none⟩ = some (.int .i64 0) := HD8.out.res.cell (i := 2) (by decide)
  have r3 : W11.cell? ⟨B + 1, 3, none⟩ = some (.int .i64 0) := HD8.out.res.cell (i := 3) (by decide)
  have r4 : W11.cell? ⟨B + 1, 4, none⟩ = some (.int .i64 0) := HD8.out.res.cell (i := 4) (by decide)
  have r5 : W11.cell? ⟨B + 1, 5, none⟩ = some (.int .i64 0) := HD8.out.res.cell (i := 5) (by decide)
  have r6 : W11.cell? ⟨B + 1, 6, none⟩ = some (.int .i64 0) := HD8.out.res.cell (i := 6) (by decide)
  have r7 : W11.cell? ⟨B + 1, 7, none⟩ = some (.int .i64 0) := HD8.out.res.cell (i := 7) (by decide)
  have r8 : W11.cell? ⟨B + 1, 8, none⟩ = some (.int .i64 0) := HD8.out.res.cell (i := 8) (by decide)
  have r9 : W11.cell? ⟨B + 1, 9, none⟩ = some (.int .i64 0) := HD8.out.res.cell (i := 9) (by decide)
  have rf := HD8.out.res.frozen
  have hgv := HD8.out.give
  simp only [put10, stv] at hgv
  have HGV := hid hgv
  clear hgv
  clear HD8
  go_wp2_with fail
  (try simp only [Exit.inBlock, Exit.then])
  refine bodyPost_ret (results_cell_row rfl _ _ (B + 1) 135 #[.int .i64 pc1, .int .i64 s0.fp, .int .i64 s0.ap, .int .i64 s0.rv, .int .i64 (s0.at' 0), .int .i64 (s0.at' 1), .int .i64 (s0.at' 2), .int .i64 (s0.is' 0), .int .i64 (s0.is' 1), .int .i64 (s0.is' 2)] (0, 0) _ rfl HGV.out.1 Tryz.underlying135 rfl (by kernel_rfl)) rfl ?_
  have hst : s0.step p 6 a b c = (s4, ⟨pc1, s0.fp, s0.ap, s0.rv⟩) := by
    have e0 := HX1.out
    have e1 := HS1.out
    have e2 := HX2.out
    have e3 := HS2.out
    have e4 := HX3.out
    have e5 := HS3.out
    have e6 := HS4.out
    obtain ⟨h1, h2, h3⟩ := HFA.out
    have h4 := HPC.out
    subst h1 h2 h3 h4
    subst e6
    subst e5
    subst e4
    subst e3
    subst e2
    subst e1
    subst e0
    simp [RM.step, RM.three, RM.rck]
  unfold DoR
  rw [hst]
  exact ⟨rfl, HGV.out.2⟩

end Go.Proofs.YtaibngnabhmabajGreatDoor
