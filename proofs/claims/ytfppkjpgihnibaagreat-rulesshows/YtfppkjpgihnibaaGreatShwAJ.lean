/- Package machine: step, the walk. A step of the program is one of the document, plainly. -/
import Derived.Test.YtfppkjpgihnibaaGreatShwAI
import Derived.Test.YtfppkjpgihnibaaGreatMahG
namespace Go.Proofs.YtfppkjpgihnibaaGreat
open Go.RowKit Go.Maps

/-- how a step ends -/
def SpR (p R b B nB : Nat) (aL : Option Addr) (nL cL : Nat) (op ia ib ic : Int) (n : Rg) (cs : List (Int × Int)) (w : World) (e : Ending) (w' : World) : Prop :=
  let x := cel3 p op ia ib ic n.fp n.ap
  let r := wrk p op ib (x 0) (x 1) (x 2) n cs
  Gr2 B R w w' ∧ ((r.1 = 0 ∧ e = .returned (.agg #[.int .i64 n.pc, .int .i64 n.fp, .int .i64 n.ap, .int .i64 n.rv, .int .i64 (x 0), .int .i64 (x 1), .int .i64 (x 2), .int .i64 (cvl r.2 (x 0)), .int .i64 (cvl r.2 (x 1)), .int .i64 (cvl r.2 (x 2))]) ∧ RnAt w' R b B aL nL cL (mvg p op ia ib n (cvl r.2 (x 0)) (cvl r.2 (x 1)) (cvl r.2 (x 2))) ∧ MapAt w' B nB r.2) ∨ (r.1 = 7 ∧ e = pnc 87) ∨ (r.1 = 10 ∧ e = pnc 86))
theorem cel3_fit {p : Nat} (h3 : 3 ≤ p) (h4 : p ≤ 2147483647) (op a b c fp ap : Int) (i : Nat) : I64 (cel3 p op a b c fp ap i) := by
  have e : ∀ x : Int, I64 (x % (p : Int)) := fun x => by have := emod_bounds x p h3; exact ⟨by omega, by omega⟩
  have z : I64 0 := ⟨by decide, by decide⟩
  unfold cel3
  repeat' split
  all_goals first | exact e _ | exact z

set_option maxRecDepth 100000 in
set_option maxHeartbeats 4000000 in
theorem pstep_any (p R b B nB : Nat) (aL : Option Addr) (nL cL : Nat) (op ia ib ic : Int) (n : Rg) (cs : List (Int × Int)) (w : World) (h3 : 3 ≤ p) (h4 : p ≤ 2147483647) (hpr : Num.Prime p) (hR : RnAt w R b B aL nL cL n) (hM : MapAt w B nB cs) (hp : w.cell? ⟨b, 0, none⟩ = some (.int .i64 p)) (hnB : nB + 2 < maxLen) (hcs : ∀ x, 0 ≤ cvl cs x ∧ cvl cs x < p) (hi : I64 ia ∧ I64 ib ∧ I64 ic) (hn : I64 n.pc ∧ I64 n.fp ∧ I64 n.ap ∧ I64 n.rv) (hne : b ≠ R) :
    Calls Tryz.prog 52 #[.pointer (some ⟨R, 0, none⟩), .agg #[.int .i64 op, .int .i64 ia, .int .i64 ib, .int .i64 ic]] w (SpR p R b B (nB + 2) aL nL cL op ia ib ic n cs w) := by
  obtain ⟨W0, hW0⟩ : ∃ W0, W0 = (w.alloc (.cells #[.int .i64 op, .int .i64 ia, .int .i64 ib, .int .i64 ic] 44)).alloc (.cells #[.int .i64 0, .int .i64 0, .int .i64 0, .int .i64 0, .int .i64 0, .int .i64 0, .int .i64 0, .int .i64 0, .int .i64 0, .int .i64 0] 58) := ⟨_, rfl⟩
  obtain ⟨V, hV⟩ : ∃ V, V = w.alloc (.cells #[.int .i64 op, .int .i64 ia, .int .i64 ib, .int .i64 ic] 44) := ⟨_, rfl⟩
  have b1 : Below w.heap.size w V := by rw [hV]; exact (Below.refl _ _).alloc (Nat.le_refl _) _
  have hs : V.heap.size = w.heap.size + 1 := by rw [hV]; simp
  have hiv : V.heap[w.heap.size]? = some (.cells #[.int .i64 op, .int .i64 ia, .int .i64 ib, .int .i64 ic] 44 (0, 0)) := by rw [hV]; exact heap_alloc_new w _
  have b2 : Below V.heap.size V W0 := by rw [hW0, ← hV]; exact (Below.refl _ _).alloc (Nat.le_refl _) _
  have hb0 := b1.trans (b2.mono b1.size)
  have hi0 := (b2.block w.heap.size (by omega)).trans hiv
  have hz0 : W0.rowIs (w.heap.size + 1) 58 10 (fun _ => .int .i64 0) := by
    rw [hW0, ← hV, ← hs]
    exact row_newM V _ _ 10 _ rfl (fun i hi => by rcases ten hi with rfl | rfl | rfl | rfl | rfl | rfl | rfl | rfl | rfl | rfl <;> rfl)
  obtain ⟨C, hC⟩ : ∃ C, C = w.heap.size := ⟨_, rfl⟩
  rw [← hC] at hi0 hz0
  have hR0 : RnAt W0 R b B aL nL cL n := hR.of_block (hb0.block _ hR.lt)
  have hM0 : MapAt W0 B nB cs := hM.kept (gb_noneM hb0) (by simp)
  have hp0 := (hb0.cell (p := ⟨b, 0, none⟩) (World.block_lt_of_cell? _ _ hp)).trans hp
  have HB0 := hid hb0
  have HI0 := hid hi0
  have HZ0 := hid hz0
  have HR0 := hid hR0
  have HM0 := hid hM0
  have HP0 := hid hp0
  have HCN := hid hC
  have HNE := hid hne
  have HBL := hid (World.block_lt_of_cell? _ _ hp)
  have HNB := hid hnB
  have HCS := hid hcs
  have HII := hid hi
  have HNN := hid hn
  have HPR := hid hpr
  have c0 : W0.cell? ⟨R, 0, none⟩ = some (.pointer (some ⟨b, 0, none⟩)) := hR0.cell (i := 0) (by decide)
  have c3 : W0.cell? ⟨R, 3, none⟩ = some (.int .i64 n.pc) := hR0.cell (i := 3) (by decide)
  have c4 : W0.cell? ⟨R, 4, none⟩ = some (.int .i64 n.fp) := hR0.cell (i := 4) (by decide)
  have c5 : W0.cell? ⟨R, 5, none⟩ = some (.int .i64 n.ap) := hR0.cell (i := 5) (by decide)
  have c6 : W0.cell? ⟨R, 6, none⟩ = some (.int .i64 n.rv) := hR0.cell (i := 6) (by decide)
  have j0 := fourM0 hi0
  have j1 := fourM1 hi0
  have j2 := fourM2 hi0
  have j3 := fourM3 hi0
  have HKP : Hid (∀ W, Below W0.heap.size W0 W → (fun W => W.cell? ⟨R, 0, none⟩ = some (.pointer (some ⟨b, 0, none⟩)) ∧ W.cell? ⟨R, 3, none⟩ = some (.int .i64 n.pc) ∧ W.cell? ⟨R, 4, none⟩ = some (.int .i64 n.fp) ∧ W.cell? ⟨R, 5, none⟩ = some (.int .i64 n.ap) ∧ W.cell? ⟨R, 6, none⟩ = some (.int .i64 n.rv) ∧ W.cell? ⟨C, 0, none⟩ = some (.int .i64 op) ∧ W.cell? ⟨C, 1, none⟩ = some (.int .i64 ia) ∧ W.cell? ⟨C, 2, none⟩ = some (.int .i64 ib) ∧ W.cell? ⟨C, 3, none⟩ = some (.int .i64 ic)) W) := fun W hb => ⟨(hb.cell (p := ⟨R, 0, none⟩) (World.block_lt_of_cell? _ _ c0)).trans c0, (hb.cell (p := ⟨R, 3, none⟩) (World.block_lt_of_cell? _ _ c3)).trans c3, (hb.cell (p := ⟨R, 4, none⟩) (World.block_lt_of_cell? _ _ c4)).trans c4, (hb.cell (p := ⟨R, 5, none⟩) (World.block_lt_of_cell? _ _ c5)).trans c5, (hb.cell (p := ⟨R, 6, none⟩) (World.block_lt_of_cell? _ _ c6)).trans c6, (hb.cell (p := ⟨C, 0, none⟩) (World.block_lt_of_cell? _ _ j0)).trans j0, (hb.cell (p := ⟨C, 1, none⟩) (World.block_lt_of_cell? _ _ j1)).trans j1, (hb.cell (p := ⟨C, 2, none⟩) (World.block_lt_of_cell? _ _ j2)).trans j2, (hb.cell (p := ⟨C, 3, none⟩) (World.block_lt_of_cell? _ _ j3)).trans j3⟩
  obtain ⟨x, hx⟩ : ∃ x, x = cel3 p op ia ib ic n.fp n.ap := ⟨_, rfl⟩
  have HX := hid hx
  have HCE : Hid (∀ W, Below W0.heap.size W0 W → Calls Tryz.prog 72 #[.pointer (some ⟨b, 0, none⟩), .agg #[.int .i64 op, .int .i64 ia, .int .i64 ib, .int .i64 ic], .int .i64 n.fp, .int .i64 n.ap] W fun e w' => e = .returned (.agg #[.int .i64 (x 0), .int .i64 (x 1), .int .i64 (x 2)]) ∧ Below W.heap.size W w') := fun W hb => by
    rw [hx]
    exact pcells_any p b op ia ib ic n.fp n.ap W h3 h4 ((hb.cell (p := ⟨b, 0, none⟩) (World.block_lt_of_cell? _ _ hp0)).trans hp0) ⟨hi.1, hi.2.1, hi.2.2, hn.2.1, hn.2.2.1⟩
  clear hV b1 hs hiv b2 hb0 hi0 hz0 hR0 hM0 hp0 hR hM hp hnB hcs hi hn hne hpr hx
  have hix0 := ix3_0
  have hix1 := ix3_1
  have hix2 := ix3_2
  go_enter Tryz.func52, Tryz.ntmps52
  go_wp2_with fail
  rw [← hW0, ← hC]
  clear hW0 hC
  refine wp_region_held_drew (S := (fun W => W.cell? ⟨R, 0, none⟩ = some (.pointer (some ⟨b, 0, none⟩)) ∧ W.cell? ⟨R, 3, none⟩ = some (.int .i64 n.pc) ∧ W.cell? ⟨R, 4, none⟩ = some (.int .i64 n.fp) ∧ W.cell? ⟨R, 5, none⟩ = some (.int .i64 n.ap) ∧ W.cell? ⟨R, 6, none⟩ = some (.int .i64 n.rv) ∧ W.cell? ⟨C, 0, none⟩ = some (.int .i64 op) ∧ W.cell? ⟨C, 1, none⟩ = some (.int .i64 ia) ∧ W.cell? ⟨C, 2, none⟩ = some (.int .i64 ib) ∧ W.cell? ⟨C, 3, none⟩ = some (.int .i64 ic))) (by kernel_rfl) ⟨c0, c3, c4, c5, c6, j0, j1, j2, j3⟩ (fun hHeld => ?_)
  refine wpAnyH_takeW (i := 0) (v := .pointer (some ⟨R, 0, none⟩)) rfl (by kernel_rfl) (by kernel_rfl) (by kernel_rfl) (fun _ _ _ h => h) (by rfl) (fun W hC => by (obtain ⟨y0, y3, y4, y5, y6, z0, z1, z2, z3⟩ := hC); go_simp) hHeld ?_
  simp only [Act.put, List.setIfInBounds_toArray, List.set_cons_zero, List.set_cons_succ]
  refine wpAnyH_takeW (i := 1) (v := .pointer (some ⟨R, 0, none⟩)) rfl (by kernel_rfl) (by kernel_rfl) (by kernel_rfl) (fun _ _ _ h => h) (by rfl) (fun W hC => by (obtain ⟨y0, y3, y4, y5, y6, z0, z1, z2, z3⟩ := hC); go_simp) hHeld ?_
  simp only [Act.put, List.setIfInBounds_toArray, List.set_cons_zero, List.set_cons_succ]
  refine wpAnyH_takeW (i := 2) (v := .pointer (some ⟨R, 3, none⟩)) rfl (by kernel_rfl) (by kernel_rfl) (by kernel_rfl) (fun _ _ _ h => h) (by rfl) (fun W hC => by (obtain ⟨y0, y3, y4, y5, y6, z0, z1, z2, z3⟩ := hC); go_simp) hHeld ?_
  simp only [Act.put, List.setIfInBounds_toArray, List.set_cons_zero, List.set_cons_succ]
  refine wpAnyH_takeW (i := 3) (v := .int .i64 n.pc) rfl (by kernel_rfl) (by kernel_rfl) (by kernel_rfl) (fun _ _ _ h => h) (by rfl) (fun W hC => by (obtain ⟨y0, y3, y4, y5, y6, z0, z1, z2, z3⟩ := hC); go_simp) hHeld ?_
  simp only [Act.put, List.setIfInBounds_toArray, List.set_cons_zero, List.set_cons_succ]
  refine wpAnyH_takeW (i := 4) (v := .pointer (some ⟨R, 0, none⟩)) rfl (by kernel_rfl) (by kernel_rfl) (by kernel_rfl) (fun _ _ _ h => h) (by rfl) (fun W hC => by (obtain ⟨y0, y3, y4, y5, y6, z0, z1, z2, z3⟩ := hC); go_simp) hHeld ?_
  simp only [Act.put, List.setIfInBounds_toArray, List.set_cons_zero, List.set_cons_succ]
  refine wpAnyH_takeW (i := 5) (v := .pointer (some ⟨R, 0, none⟩)) rfl (by kernel_rfl) (by kernel_rfl) (by kernel_rfl) (fun _ _ _ h => h) (by rfl) (fun W hC => by (obtain ⟨y0, y3, y4, y5, y6, z0, z1, z2, z3⟩ := hC); go_simp) hHeld ?_
  simp only [Act.put, List.setIfInBounds_toArray, List.set_cons_zero, List.set_cons_succ]
  refine wpAnyH_takeW (i := 6) (v := .pointer (some ⟨R, 4, none⟩)) rfl (by kernel_rfl) (by kernel_rfl) (by kernel_rfl) (fun _ _ _ h => h) (by rfl) (fun W hC => by (obtain ⟨y0, y3, y4, y5, y6, z0, z1, z2, z3⟩ := hC); go_simp) hHeld ?_
  simp only [Act.put, List.setIfInBounds_toArray, List.set_cons_zero, List.set_cons_succ]
  refine wpAnyH_takeW (i := 7) (v := .int .i64 n.fp) rfl (by kernel_rfl) (by kernel_rfl) (by kernel_rfl) (fun _ _ _ h => h) (by rfl) (fun W hC => by (obtain ⟨y0, y3, y4, y5, y6, z0, z1, z2, z3⟩ := hC); go_simp) hHeld ?_
  simp only [Act.put, List.setIfInBounds_toArray, List.set_cons_zero, List.set_cons_succ]
  refine wpAnyH_takeW (i := 8) (v := .pointer (some ⟨R, 0, none⟩)) rfl (by kernel_rfl) (by kernel_rfl) (by kernel_rfl) (fun _ _ _ h => h) (by rfl) (fun W hC => by (obtain ⟨y0, y3, y4, y5, y6, z0, z1, z2, z3⟩ := hC); go_simp) hHeld ?_
  simp only [Act.put, List.setIfInBounds_toArray, List.set_cons_zero, List.set_cons_succ]
  refine wpAnyH_takeW (i := 9) (v := .pointer (some ⟨R, 0, none⟩)) rfl (by kernel_rfl) (by kernel_rfl) (by kernel_rfl) (fun _ _ _ h => h) (by rfl) (fun W hC => by (obtain ⟨y0, y3, y4, y5, y6, z0, z1, z2, z3⟩ := hC); go_simp) hHeld ?_
  simp only [Act.put, List.setIfInBounds_toArray, List.set_cons_zero, List.set_cons_succ]
  refine wpAnyH_takeW (i := 10) (v := .pointer (some ⟨R, 5, none⟩)) rfl (by kernel_rfl) (by kernel_rfl) (by kernel_rfl) (fun _ _ _ h => h) (by rfl) (fun W hC => by (obtain ⟨y0, y3, y4, y5, y6, z0, z1, z2, z3⟩ := hC); go_simp) hHeld ?_
  simp only [Act.put, List.setIfInBounds_toArray, List.set_cons_zero, List.set_cons_succ]
  refine wpAnyH_takeW (i := 11) (v := .int .i64 n.ap) rfl (by kernel_rfl) (by kernel_rfl) (by kernel_rfl) (fun _ _ _ h => h) (by rfl) (fun W hC => by (obtain ⟨y0, y3, y4, y5, y6, z0, z1, z2, z3⟩ := hC); go_simp) hHeld ?_
  simp only [Act.put, List.setIfInBounds_toArray, List.set_cons_zero, List.set_cons_succ]
  refine wpAnyH_takeW (i := 12) (v := .pointer (some ⟨R, 0, none⟩)) rfl (by kernel_rfl) (by kernel_rfl) (by kernel_rfl) (fun _ _ _ h => h) (by rfl) (fun W hC => by (obtain ⟨y0, y3, y4, y5, y6, z0, z1, z2, z3⟩ := hC); go_simp) hHeld ?_
  simp only [Act.put, List.setIfInBounds_toArray, List.set_cons_zero, List.set_cons_succ]
  refine wpAnyH_takeW (i := 13) (v := .pointer (some ⟨R, 0, none⟩)) rfl (by kernel_rfl) (by kernel_rfl) (by kernel_rfl) (fun _ _ _ h => h) (by rfl) (fun W hC => by (obtain ⟨y0, y3, y4, y5, y6, z0, z1, z2, z3⟩ := hC); go_simp) hHeld ?_
  simp only [Act.put, List.setIfInBounds_toArray, List.set_cons_zero, List.set_cons_succ]
  refine wpAnyH_takeW (i := 14) (v := .pointer (some ⟨R, 6, none⟩)) rfl (by kernel_rfl) (by kernel_rfl) (by kernel_rfl) (fun _ _ _ h => h) (by rfl) (fun W hC => by (obtain ⟨y0, y3, y4, y5, y6, z0, z1, z2, z3⟩ := hC); go_simp) hHeld ?_
  simp only [Act.put, List.setIfInBounds_toArray, List.set_cons_zero, List.set_cons_succ]
  refine wpAnyH_takeW (i := 15) (v := .int .i64 n.rv) rfl (by kernel_rfl) (by kernel_rfl) (by kernel_rfl) (fun _ _ _ h => h) (by rfl) (fun W hC => by (obtain ⟨y0, y3, y4, y5, y6, z0, z1, z2, z3⟩ := hC); go_simp) hHeld ?_
  simp only [Act.put, List.setIfInBounds_toArray, List.set_cons_zero, List.set_cons_succ]
  refine wpAnyH_takeW (i := 16) (v := .pointer (some ⟨R, 0, none⟩)) rfl (by kernel_rfl) (by kernel_rfl) (by kernel_rfl) (fun _ _ _ h => h) (by rfl) (fun W hC => by (obtain ⟨y0, y3, y4, y5, y6, z0, z1, z2, z3⟩ := hC); go_simp) hHeld ?_
  simp only [Act.put, List.setIfInBounds_toArray, List.set_cons_zero, List.set_cons_succ]
  refine wpAnyH_takeW (i := 17) (v := .pointer (some ⟨R, 0, none⟩)) rfl (by kernel_rfl) (by kernel_rfl) (by kernel_rfl) (fun _ _ _ h => h) (by rfl) (fun W hC => by (obtain ⟨y0, y3, y4, y5, y6, z0, z1, z2, z3⟩ := hC); go_simp) hHeld ?_
  simp only [Act.put, List.setIfInBounds_toArray, List.set_cons_zero, List.set_cons_succ]
  refine wpAnyH_takeW (i := 18) (v := .pointer (some ⟨R, 0, none⟩)) rfl (by kernel_rfl) (by kernel_rfl) (by kernel_rfl) (fun _ _ _ h => h) (by rfl) (fun W hC => by (obtain ⟨y0, y3, y4, y5, y6, z0, z1, z2, z3⟩ := hC); go_simp) hHeld ?_
  simp only [Act.put, List.setIfInBounds_toArray, List.set_cons_zero, List.set_cons_succ]
  refine wpAnyH_takeW (i := 19) (v := .pointer (some ⟨b, 0, none⟩)) rfl (by kernel_rfl) (by kernel_rfl) (by kernel_rfl) (fun _ _ _ h => h) (by rfl) (fun W hC => by (obtain ⟨y0, y3, y4, y5, y6, z0, z1, z2, z3⟩ := hC); go_simp) hHeld ?_
  simp only [Act.put, List.setIfInBounds_toArray, List.set_cons_zero, List.set_cons_succ]
  refine wpAnyH_takeW (i := 20) (v := .agg #[.int .i64 op, .int .i64 ia, .int .i64 ib, .int .i64 ic]) rfl (by kernel_rfl) (by kernel_rfl) (by kernel_rfl) (fun _ _ _ h => h) (by rfl) (fun W hC => by (obtain ⟨y0, y3, y4, y5, y6, z0, z1, z2, z3⟩ := hC); go_simp) hHeld ?_
  simp only [Act.put, List.setIfInBounds_toArray, List.set_cons_zero, List.set_cons_succ]
  refine wpAnyH_takeW (i := 21) (v := .pointer (some ⟨R, 0, none⟩)) rfl (by kernel_rfl) (by kernel_rfl) (by kernel_rfl) (fun _ _ _ h => h) (by rfl) (fun W hC => by (obtain ⟨y0, y3, y4, y5, y6, z0, z1, z2, z3⟩ := hC); go_simp) hHeld ?_
  simp only [Act.put, List.setIfInBounds_toArray, List.set_cons_zero, List.set_cons_succ]
  refine wpAnyH_takeW (i := 22) (v := .pointer (some ⟨R, 0, none⟩)) rfl (by kernel_rfl) (by kernel_rfl) (by kernel_rfl) (fun _ _ _ h => h) (by rfl) (fun W hC => by (obtain ⟨y0, y3, y4, y5, y6, z0, z1, z2, z3⟩ := hC); go_simp) hHeld ?_
  simp only [Act.put, List.setIfInBounds_toArray, List.set_cons_zero, List.set_cons_succ]
  refine wpAnyH_takeW (i := 23) (v := .pointer (some ⟨R, 4, none⟩)) rfl (by kernel_rfl) (by kernel_rfl) (by kernel_rfl) (fun _ _ _ h => h) (by rfl) (fun W hC => by (obtain ⟨y0, y3, y4, y5, y6, z0, z1, z2, z3⟩ := hC); go_simp) hHeld ?_
  simp only [Act.put, List.setIfInBounds_toArray, List.set_cons_zero, List.set_cons_succ]
  refine wpAnyH_takeW (i := 24) (v := .int .i64 n.fp) rfl (by kernel_rfl) (by kernel_rfl) (by kernel_rfl) (fun _ _ _ h => h) (by rfl) (fun W hC => by (obtain ⟨y0, y3, y4, y5, y6, z0, z1, z2, z3⟩ := hC); go_simp) hHeld ?_
  simp only [Act.put, List.setIfInBounds_toArray, List.set_cons_zero, List.set_cons_succ]
  refine wpAnyH_takeW (i := 25) (v := .pointer (some ⟨R, 0, none⟩)) rfl (by kernel_rfl) (by kernel_rfl) (by kernel_rfl) (fun _ _ _ h => h) (by rfl) (fun W hC => by (obtain ⟨y0, y3, y4, y5, y6, z0, z1, z2, z3⟩ := hC); go_simp) hHeld ?_
  simp only [Act.put, List.setIfInBounds_toArray, List.set_cons_zero, List.set_cons_succ]
  refine wpAnyH_takeW (i := 26) (v := .pointer (some ⟨R, 0, none⟩)) rfl (by kernel_rfl) (by kernel_rfl) (by kernel_rfl) (fun _ _ _ h => h) (by rfl) (fun W hC => by (obtain ⟨y0, y3, y4, y5, y6, z0, z1, z2, z3⟩ := hC); go_simp) hHeld ?_
  simp only [Act.put, List.setIfInBounds_toArray, List.set_cons_zero, List.set_cons_succ]
  refine wpAnyH_takeW (i := 27) (v := .pointer (some ⟨R, 5, none⟩)) rfl (by kernel_rfl) (by kernel_rfl) (by kernel_rfl) (fun _ _ _ h => h) (by rfl) (fun W hC => by (obtain ⟨y0, y3, y4, y5, y6, z0, z1, z2, z3⟩ := hC); go_simp) hHeld ?_
  simp only [Act.put, List.setIfInBounds_toArray, List.set_cons_zero, List.set_cons_succ]
  refine wpAnyH_takeW (i := 28) (v := .int .i64 n.ap) rfl (by kernel_rfl) (by kernel_rfl) (by kernel_rfl) (fun _ _ _ h => h) (by rfl) (fun W hC => by (obtain ⟨y0, y3, y4, y5, y6, z0, z1, z2, z3⟩ := hC); go_simp) hHeld ?_
  simp only [Act.put, List.setIfInBounds_toArray, List.set_cons_zero, List.set_cons_succ]
  have hbd : Below W0.heap.size W0 W0.drew := ⟨rfl, rfl, rfl, Nat.le_refl _, fun _ _ => rfl⟩
  refine share (F := ?F) (Good := fun G W => Below W0.heap.size W0 W ∧ W.rowIs G 58 10 (fun _ => .int .i64 0) ∧ W0.heap.size ≤ G) (fun REST => ?b1) ?b2
  case b1 =>
    refine wpAnyH_ready (rs := [29, 31]) (by kernel_rfl) (by simp) ?_
    refine AllReadyH.consW rfl (fun K hK => ?_) (AllReadyH.consW rfl (fun K hK => ?_) AllReadyH.nil)
    · go_simp
      refine (HCE.out _ hbd).mono ?_
      rintro e w1 ⟨rfl, hb1⟩
      have hb01 : Below W0.heap.size W0 w1 := ⟨hb1.os, hb1.tape, hb1.output, hb1.size, hb1.block⟩
      refine hK.out _ _ (HKP.out w1 hb01) (fun hHeld => ?_)
      clear hK K
      refine wpAnyH_takeW (i := 30) (v := .agg #[.int .i64 n.pc, .int .i64 n.fp, .int .i64 n.ap, .int .i64 n.rv, .int .i64 (x 0), .int .i64 (x 1), .int .i64 (x 2), .int .i64 0, .int .i64 0, .int .i64 0]) rfl (by kernel_rfl) (by kernel_rfl) (by kernel_rfl) (fun _ _ _ h => h) (by rfl) (fun W hC => by (obtain ⟨y0, y3, y4, y5, y6, z0, z1, z2, z3⟩ := hC); go_simp) hHeld ?_
      simp only [Act.put, List.setIfInBounds_toArray, List.set_cons_zero, List.set_cons_succ]
      refine wpAnyH_ready (rs := [31]) (by kernel_rfl) (by simp) ?_
      refine AllReadyH.consW rfl (fun K hK => ?_) AllReadyH.nil
      go_simp
      have hb02 := hb01.trans (((Below.refl w1.heap.size w1).alloc (Nat.le_refl _) (.cells #[.int .i64 0, .int .i64 0, .int .i64 0, .int .i64 0, .int .i64 0, .int .i64 0, .int .i64 0, .int .i64 0, .int .i64 0, .int .i64 0] 58)).mono hb01.size)
      have hn10 := new10 w1
      have hsz := hb01.size
      refine hK.out _ _ (HKP.out _ hb02) (fun hHeld => ?_)
      clear hK K hb1 hb01 hHeld
      generalize w1.alloc (.cells #[.int .i64 0, .int .i64 0, .int .i64 0, .int .i64 0, .int .i64 0, .int .i64 0, .int .i64 0, .int .i64 0, .int .i64 0, .int .i64 0] 58) = W at *
      generalize w1.heap.size = G at *
      exact REST G W ⟨hb02, hn10, hsz⟩
    · go_simp
      have hn10 := new10 W0.drew
      have hbV : Below W0.heap.size W0 (W0.drew.alloc (.cells #[.int .i64 0, .int .i64 0, .int .i64 0, .int .i64 0, .int .i64 0, .int .i64 0, .int .i64 0, .int .i64 0, .int .i64 0, .int .i64 0] 58)) := hbd.alloc (Nat.le_refl _) _
      refine hK.out _ _ (HKP.out _ hbV) (fun hHeld => ?_)
      clear hK K
      refine wpAnyH_ready (rs := [29]) (by kernel_rfl) (by simp) ?_
      refine AllReadyH.consW rfl (fun K hK => ?_) AllReadyH.nil
      go_simp
      refine (HCE.out _ hbV).mono ?_
      rintro e w1 ⟨rfl, hb1⟩
      have hb01 := hbV.trans (hb1.mono hbV.size)
      refine hK.out _ _ (HKP.out w1 hb01) (fun hHeld => ?_)
      clear hK K
      refine wpAnyH_takeW (i := 30) (v := .agg #[.int .i64 n.pc, .int .i64 n.fp, .int .i64 n.ap, .int .i64 n.rv, .int .i64 (x 0), .int .i64 (x 1), .int .i64 (x 2), .int .i64 0, .int .i64 0, .int .i64 0]) rfl (by kernel_rfl) (by kernel_rfl) (by kernel_rfl) (fun _ _ _ h => h) (by rfl) (fun W hC => by (obtain ⟨y0, y3, y4, y5, y6, z0, z1, z2, z3⟩ := hC); go_simp) hHeld ?_
      simp only [Act.put, List.setIfInBounds_toArray, List.set_cons_zero, List.set_cons_succ]
      exact REST _ w1 ⟨hb01, hn10.of_block (hb1.block _ hn10.lt), Nat.le_refl _⟩
  case b2 =>
    rintro G W ⟨hbW, hrG, hGs⟩
    have hfz := hrG.frozen
    have HRG := hid hrG
    have HBW := hid hbW
    have HGS := hid hGs
    have g0 := hrG.cell (i := 0) (by decide)
    have g1 := hrG.cell (i := 1) (by decide)
    have g2 := hrG.cell (i := 2) (by decide)
    have g3 := hrG.cell (i := 3) (by decide)
    have g4 := hrG.cell (i := 4) (by decide)
    have g5 := hrG.cell (i := 5) (by decide)
    have g6 := hrG.cell (i := 6) (by decide)
    have g7 := hrG.cell (i := 7) (by decide)
    have g8 := hrG.cell (i := 8) (by decide)
    have g9 := hrG.cell (i := 9) (by decide)
    clear hrG hbW hGs
    refine wpAnyH_ready (rs := [32]) (by kernel_rfl) (by simp) ?_
    refine AllReadyH.consW rfl (fun K hK => ?_) AllReadyH.nil
    go_simp
    have hbP := put10_below HBW.out HGS.out (st10 n x (fun _ => 0))
    have HSP := hid (SpP.of (C := C) (G := G) HR0.out HM0.out HP0.out HI0.out HZ0.out HB0.out hbP (put10_row HRG.out (st10 n x (fun _ => 0))) (Nat.le_of_eq HCN.out.symm) HGS.out)
    refine hK.out _ (put10 W G (st10 n x (fun _ => 0))) (HKP.out _ hbP) (fun hHeld => ?_)
    clear hK K hHeld
    refine wpAnyH_done (by kernel_rfl) ?_ _
    clear hbP hbd HBW HRG HGS hfz g0 g1 g2 g3 g4 g5 g6 g7 g8 g9 HCE HKP c0 c3 c4 c5 c6 j0 j1 j2 j3 HR0 HM0 HP0 HI0 HZ0 HB0
    generalize put10 W G (st10 n x (fun _ => 0)) = W2 at *
    have k4 := HSP.out.s.cell (i := 4) (by decide)
    have k5 := HSP.out.s.cell (i := 5) (by decide)
    have k6 := HSP.out.s.cell (i := 6) (by decide)
    simp only [st10] at k4 k5 k6
    have j0 := fourM0 HSP.out.i
    have j1 := fourM1 HSP.out.i
    have j2 := fourM2 HSP.out.i
    have j3 := fourM3 HSP.out.i
    have HWK := hid (pwork_any p R b B nB aL nL cL op ia ib ic (x 0) (x 1) (x 2) n cs W2 h3 h4 HPR.out HSP.out.rn HSP.out.mp HSP.out.hp HNB.out ⟨by rw [HX.out]; exact cel3_fit h3 h4 _ _ _ _ _ _ _, by rw [HX.out]; exact cel3_fit h3 h4 _ _ _ _ _ _ _, by rw [HX.out]; exact cel3_fit h3 h4 _ _ _ _ _ _ _⟩ HCS.out HII.out.2.1 ⟨HNN.out.1, HNN.out.2.1, HNN.out.2.2.2⟩)
    go_wp2_with fail
    refine HWK.out.mono ?_
    rintro e w3 ⟨hg3, hw3⟩
    obtain ⟨r, hr⟩ : ∃ r, r = wrk p op ib (x 0) (x 1) (x 2) n cs := ⟨_, rfl⟩
    rw [← hr] at hw3
    have HSR : Hid (∀ e w', (Gr2 B R w w' ∧ ((r.1 = 0 ∧ e = .returned (.agg #[.int .i64 n.pc, .int .i64 n.fp, .int .i64 n.ap, .int .i64 n.rv, .int .i64 (x 0), .int .i64 (x 1), .int .i64 (x 2), .int .i64 (cvl r.2 (x 0)), .int .i64 (cvl r.2 (x 1)), .int .i64 (cvl r.2 (x 2))]) ∧ RnAt w' R b B aL nL cL (mvg p op ia ib n (cvl r.2 (x 0)) (cvl r.2 (x 1)) (cvl r.2 (x 2))) ∧ MapAt w' B (nB + 2) r.2) ∨ (r.1 = 7 ∧ e = pnc 87) ∨ (r.1 = 10 ∧ e = pnc 86))) → SpR p R b B (nB + 2) aL nL cL op ia ib ic n cs w e w') := fun e w' h => by
      unfold SpR
      rw [← HX.out]
      simp only [← hr]
      exact h
    have HXF : Hid (I64 (x 0) ∧ I64 (x 1) ∧ I64 (x 2)) := ⟨by rw [HX.out]; exact cel3_fit h3 h4 _ _ _ _ _ _ _, by rw [HX.out]; exact cel3_fit h3 h4 _ _ _ _ _ _ _, by rw [HX.out]; exact cel3_fit h3 h4 _ _ _ _ _ _ _⟩
    rcases hw3 with ⟨h0, rfl, hm3⟩ | ⟨h7, rfl⟩ | ⟨h10, rfl⟩
    · have HS3 := hid (HSP.out.told hg3 hm3)
      have HH0 := hid h0
      obtain ⟨e7, cs2⟩ := r
      clear hg3 hm3 h0 hr HSP HWK k4 k5 k6 j0 j1 j2 j3
      have k4 := HS3.out.s.cell (i := 4) (by decide)
      have k5 := HS3.out.s.cell (i := 5) (by decide)
      have k6 := HS3.out.s.cell (i := 6) (by decide)
      simp only [st10] at k4 k5 k6
      go_wp2_with fail
      go_loopw [46] (fun u wr => ∃ j : Nat, j ≤ 3 ∧ u = .int .i64 (j : Int) ∧ Hid (SpP p R b B (nB + 2) C G aL nL cL op ia ib ic n cs2 n x (fil cs2 x j) w wr)) (fun u _ => (3 - intOf u).toNat)
      case atStart => exact ⟨0, by decide, rfl, HS3.out⟩
      case round =>
        obtain ⟨j, hj, rfl, HSJ⟩ := hrel
        obtain ⟨D, hD, hC⟩ := HSJ.out.mp
        have c2 : wr.cell? ⟨R, 2, none⟩ = some (.map (some B)) := HSJ.out.rn.cell (i := 2) (by decide)
        have hfz := HSJ.out.s.frozen
        have hj4 : j = 0 ∨ j = 1 ∨ j = 2 ∨ j = 3 := by omega
        rcases hj4 with rfl | rfl | rfl | rfl
        · have hlt : ((0 : Nat) : Int) < 3 := by decide
          have q0 : wr.cell? ⟨G, 7, none⟩ = some (.int .i64 (fil cs2 x 0 0)) := HSJ.out.s.cell (i := 7) (by decide)
          have HN := hid (HSJ.out.put 7 (cvl cs2 (x 0)) HBL.out (y' := fil cs2 x 1) (fun i hi => by rcases ten hi with rfl | rfl | rfl | rfl | rfl | rfl | rfl | rfl | rfl | rfl <;> simp [st10, fil]))
          go_wp2_with (at_lookup; refine wpList_lookup_own_int _ rfl _ _ 66 rfl 3 3 .i64 keyI Tryz.underlying66 Tryz.underlying3 (zeroI _) B (nB + 2) _ rfl hD _ _ rfl (key64 HXF.out.1) ?_; intro c hat hwc; obtain rfl : c = cvl cs2 (x 0) := by (rw [(hC (x 0) HXF.out.1).2] at hat; injection hat with hat; injection hat with _ hat; exact hat.symm))
          go_roundw
          case rel => exact ⟨1, by decide, rfl, HN.out⟩
          case measure => simp [intOf]
        · have hlt : ((1 : Nat) : Int) < 3 := by decide
          have q1 : wr.cell? ⟨G, 8, none⟩ = some (.int .i64 (fil cs2 x 1 1)) := HSJ.out.s.cell (i := 8) (by decide)
          have HN := hid (HSJ.out.put 8 (cvl cs2 (x 1)) HBL.out (y' := fil cs2 x 2) (fun i hi => by rcases ten hi with rfl | rfl | rfl | rfl | rfl | rfl | rfl | rfl | rfl | rfl <;> simp [st10, fil]))
          go_wp2_with (at_lookup; refine wpList_lookup_own_int _ rfl _ _ 66 rfl 3 3 .i64 keyI Tryz.underlying66 Tryz.underlying3 (zeroI _) B (nB + 2) _ rfl hD _ _ rfl (key64 HXF.out.2.1) ?_; intro c hat hwc; obtain rfl : c = cvl cs2 (x 1) := by (rw [(hC (x 1) HXF.out.2.1).2] at hat; injection hat with hat; injection hat with _ hat; exact hat.symm))
          go_roundw
          case rel => exact ⟨2, by decide, rfl, HN.out⟩
          case measure => simp [intOf]
        · have hlt : ((2 : Nat) : Int) < 3 := by decide
          have q2 : wr.cell? ⟨G, 9, none⟩ = some (.int .i64 (fil cs2 x 2 2)) := HSJ.out.s.cell (i := 9) (by decide)
          have HN := hid (HSJ.out.put 9 (cvl cs2 (x 2)) HBL.out (y' := fil cs2 x 3) (fun i hi => by rcases ten hi with rfl | rfl | rfl | rfl | rfl | rfl | rfl | rfl | rfl | rfl <;> simp [st10, fil]))
          go_wp2_with (at_lookup; refine wpList_lookup_own_int _ rfl _ _ 66 rfl 3 3 .i64 keyI Tryz.underlying66 Tryz.underlying3 (zeroI _) B (nB + 2) _ rfl hD _ _ rfl (key64 HXF.out.2.2) ?_; intro c hat hwc; obtain rfl : c = cvl cs2 (x 2) := by (rw [(hC (x 2) HXF.out.2.2).2] at hat; injection hat with hat; injection hat with _ hat; exact hat.symm))
          go_roundw
          case rel => exact ⟨3, by decide, rfl, HN.out⟩
          case measure => simp [intOf]
        · have hlt : ¬ ((3 : Nat) : Int) < 3 := by decide
          have i0 := fourM0 HSJ.out.i
          have i1 := fourM1 HSJ.out.i
          have i2 := fourM2 HSJ.out.i
          have i3 := fourM3 HSJ.out.i
          have s7 : wr.cell? ⟨G, 7, none⟩ = some (.int .i64 (cvl cs2 (x 0))) := HSJ.out.s.cell (i := 7) (by decide)
          have s8 : wr.cell? ⟨G, 8, none⟩ = some (.int .i64 (cvl cs2 (x 1))) := HSJ.out.s.cell (i := 8) (by decide)
          have s9 : wr.cell? ⟨G, 9, none⟩ = some (.int .i64 (cvl cs2 (x 2))) := HSJ.out.s.cell (i := 9) (by decide)
          have HMV := hid (pmove_any p R b B aL nL cL op ia ib ic (cvl cs2 (x 0)) (cvl cs2 (x 1)) (cvl cs2 (x 2)) n wr h3 h4 HSJ.out.rn HSJ.out.hp HNE.out ⟨HNN.out.1, HNN.out.2.2.1⟩ ⟨HII.out.1, HII.out.2.1⟩)
          have HMM := hid HSJ.out.mp
          clear hC hD hfz c2 hlt
          go_wp2_with fail
          refine HMV.out.mono ?_
          rintro e w4 ⟨rfl, hr4, hg4⟩
          have hKp : ∀ {k : Nat} {c' : Array Value} {t' : TypeId} {f' : Nat × Nat}, wr.heap[k]? = some (.cells c' t' f') → t' ≠ 93 → w4.heap[k]? = some (.cells c' t' f') := fun {k c' t' f'} hk ht => by
            refine (hg4.block k (Array.getElem?_eq_some_iff.1 hk).1 ?_).trans hk
            intro e
            injection e with e
            subst e
            obtain ⟨c, hc, _⟩ := HSJ.out.rn
            rw [hc] at hk
            injection hk with hk
            injection hk with _ h2 _
            exact ht h2.symm
          have hs4 : w4.rowIs G 58 10 (st10 n x (fil cs2 x 3)) := by obtain ⟨c, h1, h2⟩ := HSJ.out.s; exact ⟨c, hKp h1 (by decide), h2⟩
          have hz4 : w4.rowIs (C + 1) 58 10 (fun _ => .int .i64 0) := by obtain ⟨c, h1, h2⟩ := HSJ.out.z; exact ⟨c, hKp h1 (by decide), h2⟩
          have hm4 : MapAt w4 B (nB + 2) cs2 := HMM.out.kept hg4 (by
            intro e
            injection e with e
            subst e
            obtain ⟨c, hc, _⟩ := HSJ.out.rn
            exact map_ne HMM.out hc rfl)
          have hgp := put10_gb w4 (C + 1) (st10 n x (fil cs2 x 3))
          have HEND : Hid (SpR p R b B (nB + 2) aL nL cL op ia ib ic n cs w (.returned (.agg #[.int .i64 n.pc, .int .i64 n.fp, .int .i64 n.ap, .int .i64 n.rv, .int .i64 (x 0), .int .i64 (x 1), .int .i64 (x 2), .int .i64 (cvl cs2 (x 0)), .int .i64 (cvl cs2 (x 1)), .int .i64 (cvl cs2 (x 2))])) (put10 w4 (C + 1) (st10 n x (fil cs2 x 3)))) := by
            obtain ⟨c, hc, hcs⟩ := hz4
            obtain ⟨d, hd, hds⟩ := hr4
            have hCR : R ≠ C + 1 := by
              rintro rfl
              rw [hc] at hd
              injection hd with hd
              injection hd with _ h2 _
              exact absurd h2 (by decide)
            have hcN := HSJ.out.cN
            have g3 := HSJ.out.gr.trans (Gr2.of2 hg4)
            exact HSR.out _ _ ⟨⟨hgp.os.trans g3.os, hgp.tape.trans g3.tape, hgp.output.trans g3.output, Nat.le_trans g3.size hgp.size, fun k hk e1 e2 => (put10_oth _ _ _ k (by omega)).trans (g3.block k hk e1 e2)⟩, .inl ⟨HH0.out, rfl, World.rowIs.of_block ⟨d, hd, hds⟩ (put10_oth _ _ _ _ hCR), hm4.kept hgp (by intro e; injection e with e; exact map_ne hm4 hc e.symm)⟩⟩
          have HRS := hid (row10_arr (put10_row hz4 (st10 n x (fil cs2 x 3))))
          have y0 := hs4.cell (i := 0) (by decide)
          have y1 := hs4.cell (i := 1) (by decide)
          have y2 := hs4.cell (i := 2) (by decide)
          have y3 := hs4.cell (i := 3) (by decide)
          have y4 := hs4.cell (i := 4) (by decide)
          have y5 := hs4.cell (i := 5) (by decide)
          have y6 := hs4.cell (i := 6) (by decide)
          have y7 := hs4.cell (i := 7) (by decide)
          have y8 := hs4.cell (i := 8) (by decide)
          have y9 := hs4.cell (i := 9) (by decide)
          simp only [st10, fil] at y0 y1 y2 y3 y4 y5 y6 y7 y8 y9
          have z0 := hz4.cell (i := 0) (by decide)
          have z1 := hz4.cell (i := 1) (by decide)
          have z2 := hz4.cell (i := 2) (by decide)
          have z3 := hz4.cell (i := 3) (by decide)
          have z4 := hz4.cell (i := 4) (by decide)
          have z5 := hz4.cell (i := 5) (by decide)
          have z6 := hz4.cell (i := 6) (by decide)
          have z7 := hz4.cell (i := 7) (by decide)
          have z8 := hz4.cell (i := 8) (by decide)
          have z9 := hz4.cell (i := 9) (by decide)
          have hfz := hz4.frozen
          clear hr4 hg4 hs4 hz4 hm4 hgp i0 i1 i2 i3 s7 s8 s9 HMV HMM
          go_wp2_with fail
          (try simp only [Exit.inBlock, Exit.then])
          refine bodyPost_ret (results_cell_row rfl _ _ (C + 1) 58 #[.int .i64 n.pc, .int .i64 n.fp, .int .i64 n.ap, .int .i64 n.rv, .int .i64 (x 0), .int .i64 (x 1), .int .i64 (x 2), .int .i64 (cvl cs2 (x 0)), .int .i64 (cvl cs2 (x 1)), .int .i64 (cvl cs2 (x 2))] (0, 0) _ rfl HRS.out Tryz.underlying58 rfl (by kernel_rfl)) rfl ?_
          exact HEND.out
    · exact ⟨rfl, HSR.out _ _ ⟨HSP.out.gr.trans (Gr2.of1 hg3), .inr (.inl ⟨h7, rfl⟩)⟩⟩
    · exact ⟨rfl, HSR.out _ _ ⟨HSP.out.gr.trans (Gr2.of1 hg3), .inr (.inr ⟨h10, rfl⟩)⟩⟩

end Go.Proofs.YtfppkjpgihnibaaGreat

namespace Go.Proofs.YtfppkjpgihnibaaGreat
open Go.RowKit Go.Maps

theorem look_eq {s : RM} (he : s.err = 0) (x : Int) : s.look x = if 0 ≤ finz s.cs x then (s.shown x (cvl s.cs x), cvl s.cs x) else ({ s with err := 10 }, 0) := by
  unfold RM.look cvl
  rw [if_neg (by rw [he]; exact fun h => h rfl)]
  by_cases h : 0 ≤ finz s.cs x
  · rw [if_neg (by omega), if_pos h, if_pos h]
  · rw [if_pos (by omega), if_neg h]
theorem look_err {s : RM} (he : s.err ≠ 0) (x : Int) : s.look x = (s, 0) := by
  unfold RM.look
  rw [if_pos he]
theorem tell_eq {p : Nat} {s : RM} (he : s.err = 0) (x y : Int) : s.tell p x y = if (tel s.cs x (y % (p : Int))).1 = 0 then ({ s with cs := (tel s.cs x (y % (p : Int))).2 } : RM).shown x (y % (p : Int)) else { s with err := 7 } := by
  unfold RM.tell
  rw [if_neg (by rw [he]; exact fun h => h rfl)]
  by_cases h : 0 ≤ finz s.cs x
  · have hn : ¬ finz s.cs x < 0 := by omega
    by_cases h2 : (cat s.cs (finz s.cs x).toNat).2 = y % (p : Int)
    · simp [tel, cvl, tld, h, hn, h2]
    · simp [tel, cvl, h, h2]
  · have hn : finz s.cs x < 0 := by omega
    simp [tel, tld, h, hn]
theorem tell_err {p : Nat} {s : RM} (he : s.err ≠ 0) (x y : Int) : s.tell p x y = s := by
  unfold RM.tell
  rw [if_pos he]
theorem tel_two (cs : List (Int × Int)) (x y : Int) : (tel cs x y).1 = 0 ∨ (tel cs x y).1 = 7 := by
  unfold tel
  split
  · exact .inr rfl
  · exact .inl rfl
theorem tel_same {cs : List (Int × Int)} {x y : Int} (h : (tel cs x y).1 = 0) : (tel cs x y).2 = tld cs x y ∧ (0 ≤ finz cs x → cvl cs x = y) := by
  unfold tel at h ⊢
  split at h
  · simp at h
  · rename_i hh
    rw [if_neg hh]
    exact ⟨rfl, fun h1 => Decidable.byContradiction fun h2 => hh ⟨h1, h2⟩⟩
theorem tel_is {cs : List (Int × Int)} {x y : Int} (h : (tel cs x y).1 = 0) : cvl (tel cs x y).2 x = y := by
  rw [(tel_same h).1, tld_cvl (tel_same h).2, if_pos rfl]
theorem tel_keep {cs : List (Int × Int)} {x y u : Int} (h : (tel cs x y).1 = 0) (hu : 0 ≤ finz cs u) : cvl (tel cs x y).2 u = cvl cs u ∧ 0 ≤ finz (tel cs x y).2 u := by
  rw [(tel_same h).1, tld_cvl (tel_same h).2]
  refine ⟨?_, tld_finz.2 (.inl hu)⟩
  split
  · rename_i e
    subst e
    exact ((tel_same h).2 hu).symm
  · rfl

/-- cell 0 is 0 -/
def Zer (cs : List (Int × Int)) : Prop := 0 ≤ finz cs 0 ∧ cvl cs 0 = 0
theorem Zer.tel {cs : List (Int × Int)} {x y : Int} (h : Zer cs) (hh : (tel cs x y).1 = 0) : Zer (tel cs x y).2 := ⟨(tel_keep hh h.1).2, (tel_keep hh h.1).1.trans h.2⟩
/-- a step of the program is one of the document -/
def StepIs (p : Nat) (op a b c : Int) (n : Rg) (cs : List (Int × Int)) : Prop :=
  let x := cel3 p op a b c n.fp n.ap
  let r := wrk p op b (x 0) (x 1) (x 2) n cs
  let s := (freshM cs n).step p op a b c
  s.1.err = r.1 ∧ (r.1 = 0 → s.1.cs = r.2 ∧ s.1.now = [n.pc, n.fp, n.ap, n.rv, x 0, x 1, x 2, cvl r.2 (x 0), cvl r.2 (x 1), cvl r.2 (x 2)] ∧ s.2 = mvg p op a b n (cvl r.2 (x 0)) (cvl r.2 (x 1)) (cvl r.2 (x 2)))

section
variable {p : Nat} {a b c : Int} {n : Rg} {cs : List (Int × Int)}
theorem freshM_err : (freshM cs n).err = 0 := rfl
theorem fr_cs : (freshM cs n).cs = cs := rfl
theorem fr_fp : (freshM cs n).fp = n.fp := rfl
theorem fr_ap : (freshM cs n).ap = n.ap := rfl
theorem fr_pc : (freshM cs n).pc = n.pc := rfl
theorem fr_rv : (freshM cs n).rv = n.rv := rfl
theorem step_set (hz : Zer cs) : StepIs p 5 a b c n cs := by
  unfold StepIs
  simp [RM.step, cel3, wrk, mvg, fr_fp, fr_ap, fr_pc, fr_rv]
  rw [tell_eq freshM_err, fr_cs]
  by_cases h : (tel cs ((n.fp + a) % (p : Int)) (b % (p : Int))).1 = 0
  · simp [h, RM.shown, freshM, RM.now, stl, updM, tel_is h, (hz.tel h).2]
  · simp [(tel_two _ _ _).resolve_left h]
theorem step_take (hz : Zer cs) (hr : RgB p n) : StepIs p 12 a b c n cs := by
  unfold StepIs
  simp [RM.step, cel3, wrk, mvg, fr_fp, fr_ap, fr_pc, fr_rv]
  rw [tell_eq freshM_err, fr_cs, Int.emod_eq_of_lt hr.2.2.2.1 hr.2.2.2.2]
  by_cases h : (tel cs ((n.fp + a) % (p : Int)) n.rv).1 = 0
  · simp [h, RM.shown, freshM, RM.now, stl, updM, tel_is h, (hz.tel h).2]
  · simp [(tel_two _ _ _).resolve_left h]
theorem step_jump (hz : Zer cs) : StepIs p 8 a b c n cs := by
  unfold StepIs
  simp [RM.step, cel3, wrk, mvg, fr_fp, fr_ap, fr_rv]
  simp [freshM, RM.now, stl, hz.2]
theorem step_other {op : Int} (hno : op ≠ 0 ∧ op ≠ 1 ∧ op ≠ 2 ∧ op ≠ 3 ∧ op ≠ 4 ∧ op ≠ 5 ∧ op ≠ 6 ∧ op ≠ 7 ∧ op ≠ 8 ∧ op ≠ 9 ∧ op ≠ 10 ∧ op ≠ 11 ∧ op ≠ 12 ∧ op ≠ 13) : StepIs p op a b c n cs := by
  unfold StepIs
  simp [RM.step, wrk, hno]
theorem step_halt (hz : Zer cs) : StepIs p 0 a b c n cs := by
  unfold StepIs
  simp [RM.step, cel3, wrk, mvg, fr_fp, fr_ap, fr_pc, fr_rv]
  simp only [look_eq freshM_err, fr_cs]
  by_cases h : 0 ≤ finz cs ((n.fp + a) % (p : Int))
  · have gh : ¬ finz cs (((n.fp + a) % (p : Int))) < 0 := by omega
    simp [h, gh, RM.shown, freshM, RM.now, stl, updM, hz.2]
  · have gh : finz cs (((n.fp + a) % (p : Int))) < 0 := by omega
    simp [h, gh]
theorem step_zero (hz : Zer cs) : StepIs p 9 a b c n cs := by
  unfold StepIs
  simp [RM.step, cel3, wrk, mvg, fr_fp, fr_ap, fr_pc, fr_rv]
  simp only [look_eq freshM_err, fr_cs]
  by_cases h : 0 ≤ finz cs ((n.fp + a) % (p : Int))
  · have gh : ¬ finz cs (((n.fp + a) % (p : Int))) < 0 := by omega
    simp [h, gh, RM.shown, freshM, RM.now, stl, updM, hz.2]
  · have gh : finz cs (((n.fp + a) % (p : Int))) < 0 := by omega
    simp [h, gh]
theorem step_pass (hz : Zer cs) (hb : ∀ x, 0 ≤ cvl cs x ∧ cvl cs x < p) : StepIs p 13 a b c n cs := by
  unfold StepIs
  simp [RM.step, cel3, wrk, mvg, fr_fp, fr_ap, fr_pc, fr_rv]
  simp only [look_eq freshM_err, fr_cs]
  generalize (n.fp + a) % (p : Int) = A
  generalize (n.ap + 2 + b) % (p : Int) = B
  by_cases h : 0 ≤ finz cs A
  · have gh : ¬ finz cs (A) < 0 := by omega
    simp only [h, gh, if_true, if_false]
    have e1 : ((freshM cs n).shown A (cvl cs A)).err = 0 := rfl
    have e2 : ((freshM cs n).shown A (cvl cs A)).cs = cs := rfl
    rw [tell_eq e1, e2, Int.emod_eq_of_lt (hb A).1 (hb A).2]
    by_cases h2 : (tel cs B (cvl cs A)).1 = 0
    · simp [h2, RM.shown, freshM, RM.now, stl, updM, tel_is h2, (hz.tel h2).2, (tel_keep h2 h).1]
    · simp [(tel_two _ _ _).resolve_left h2]
  · have gh : finz cs (A) < 0 := by omega
    simp [h, gh, RM.tell]
theorem step_back : StepIs p 11 a b c n cs := by
  unfold StepIs
  simp [RM.step, cel3, wrk, mvg, fr_fp, fr_ap]
  simp only [look_eq freshM_err, fr_cs]
  generalize (n.fp + a) % (p : Int) = A
  generalize (n.fp - 2) % (p : Int) = X
  generalize (n.fp - 1) % (p : Int) = Y
  by_cases h : 0 ≤ finz cs X
  · have gh : ¬ finz cs (X) < 0 := by omega
    simp only [h, gh, if_true, if_false]
    have e1 : ((freshM cs n).shown X (cvl cs X)).err = 0 := rfl
    have e2 : ((freshM cs n).shown X (cvl cs X)).cs = cs := rfl
    rw [look_eq e1, e2]
    by_cases h2 : 0 ≤ finz cs Y
    · have gh2 : ¬ finz cs (Y) < 0 := by omega
      simp only [h2, gh2, if_true, if_false]
      have e3 : (((freshM cs n).shown X (cvl cs X)).shown Y (cvl cs Y)).err = 0 := rfl
      have e4 : (((freshM cs n).shown X (cvl cs X)).shown Y (cvl cs Y)).cs = cs := rfl
      rw [look_eq e3, e4]
      by_cases h3 : 0 ≤ finz cs A
      · have gh3 : ¬ finz cs (A) < 0 := by omega
        simp [h3, gh3, RM.shown, freshM, RM.now, stl, updM]
      · have gh3 : finz cs (A) < 0 := by omega
        simp [h3, gh3]
    · have gh2 : finz cs (Y) < 0 := by omega
      simp [h2, gh2, RM.look]
  · have gh : finz cs (X) < 0 := by omega
    simp [h, gh, RM.look]
theorem step_must (hz : Zer cs) : StepIs p 7 a b c n cs := by
  unfold StepIs
  simp [RM.step, cel3, wrk, mvg, fr_fp, fr_ap, fr_pc, fr_rv]
  simp only [look_eq freshM_err, fr_cs]
  generalize (n.fp + a) % (p : Int) = X
  generalize (n.fp + b) % (p : Int) = Y
  by_cases h : 0 ≤ finz cs X
  · have gh : ¬ finz cs (X) < 0 := by omega
    simp only [h, gh, if_true, if_false]
    have e1 : ((freshM cs n).shown X (cvl cs X)).err = 0 := rfl
    have e2 : ((freshM cs n).shown X (cvl cs X)).cs = cs := rfl
    rw [look_eq e1, e2]
    by_cases h2 : 0 ≤ finz cs Y
    · have gh2 : ¬ finz cs (Y) < 0 := by omega
      by_cases h3 : cvl cs X = cvl cs Y
      · simp [h2, gh2, h3, RM.must, RM.shown, freshM, RM.now, stl, updM, hz.2]
      · simp [h2, gh2, h3, RM.must, RM.shown, freshM]
    · have gh2 : finz cs (Y) < 0 := by omega
      simp [h2, gh2, RM.must]
  · have gh : finz cs (X) < 0 := by omega
    simp [h, gh, RM.look, RM.must]
theorem step_call (hz : Zer cs) (hr : RgB p n) : StepIs p 10 a b c n cs := by
  unfold StepIs
  have hap : n.ap % (p : Int) = n.ap := Int.emod_eq_of_lt hr.2.2.1.1 hr.2.2.1.2
  simp [RM.step, cel3, wrk, mvg, fr_fp, fr_ap, fr_pc, fr_rv, hap]
  rw [tell_eq freshM_err, fr_cs, Int.emod_eq_of_lt hr.2.1.1 hr.2.1.2]
  generalize (n.ap + 1) % (p : Int) = Y
  by_cases h : (tel cs n.ap n.fp).1 = 0
  · simp only [h, if_true]
    have e1 : (({ freshM cs n with cs := (tel cs n.ap n.fp).2 } : RM).shown n.ap n.fp).err = 0 := rfl
    have e2 : (({ freshM cs n with cs := (tel cs n.ap n.fp).2 } : RM).shown n.ap n.fp).cs = (tel cs n.ap n.fp).2 := rfl
    rw [tell_eq e1, e2]
    by_cases h2 : (tel (tel cs n.ap n.fp).2 Y ((n.pc + 1) % (p : Int))).1 = 0
    · have hk := tel_keep (u := n.ap) h2 (by rw [(tel_same h).1]; exact tld_finz.2 (.inr rfl))
      simp [h2, RM.shown, freshM, RM.now, stl, updM, tel_is h2, ((hz.tel h).tel h2).2, hk.1, tel_is h]
    · simp [(tel_two _ _ _).resolve_left h2]
  · have h7 := (tel_two cs n.ap n.fp).resolve_left h
    simp [h7, RM.tell]
/-- two looks and a telling -/
theorem step_three {op : Int} (ho : op = 1 ∨ op = 2 ∨ op = 3 ∨ op = 6) (h3 : 3 ≤ p) : StepIs p op a b c n cs := by
  unfold StepIs
  have hc : (op = 1 ∨ op = 2 ∨ op = 3 ∨ op = 4 ∨ op = 6) = True := by rw [eq_iff_iff]; exact ⟨fun _ => trivial, fun _ => by rcases ho with h | h | h | h <;> simp [h]⟩
  have hd : (op = 1 ∨ op = 2 ∨ op = 3 ∨ op = 6) = True := by rw [eq_iff_iff]; exact ⟨fun _ => trivial, fun _ => ho⟩
  have hn4 : op ≠ 4 := by rcases ho with rfl | rfl | rfl | rfl <;> decide
  have hm : ∀ x y z, mvg p op a b n x y z = ⟨(n.pc + 1) % (p : Int), n.fp, n.ap, n.rv⟩ := fun x y z => by
    unfold mvg
    rcases ho with rfl | rfl | rfl | rfl <;> simp
  simp only [RM.step, cel3, wrk, hc, hd, if_true, RM.three, RM.rck, if_neg hn4, hm, fr_fp, fr_ap, fr_pc, fr_rv]
  simp
  simp only [look_eq freshM_err, fr_cs]
  generalize (n.fp + a) % (p : Int) = X
  generalize (n.fp + b) % (p : Int) = Y
  generalize (n.fp + c) % (p : Int) = Z
  by_cases h : 0 ≤ finz cs X
  · have gh : ¬ finz cs (X) < 0 := by omega
    simp only [h, gh, if_true, if_false]
    have e1 : ((freshM cs n).shown X (cvl cs X)).err = 0 := rfl
    have e2 : ((freshM cs n).shown X (cvl cs X)).cs = cs := rfl
    rw [look_eq e1, e2]
    by_cases h2 : 0 ≤ finz cs Y
    · have gh2 : ¬ finz cs (Y) < 0 := by omega
      simp only [h2, gh2, if_true, if_false]
      have e3 : (((freshM cs n).shown X (cvl cs X)).shown Y (cvl cs Y)).err = 0 := rfl
      have e4 : (((freshM cs n).shown X (cvl cs X)).shown Y (cvl cs Y)).cs = cs := rfl
      have hb := rkn_bounds h3 op (cvl cs X) (cvl cs Y)
      rw [tell_eq e3, e4, Int.emod_eq_of_lt hb.1 hb.2]
      by_cases h5 : (tel cs Z (rkn p op (cvl cs X) (cvl cs Y))).1 = 0
      · simp [h5, RM.shown, freshM, RM.now, stl, updM, tel_is h5, (tel_keep h5 h).1, (tel_keep h5 h2).1]
      · simp [(tel_two _ _ _).resolve_left h5]
    · have gh2 : finz cs (Y) < 0 := by omega
      simp [h2, gh2, RM.tell]
  · have gh : finz cs (X) < 0 := by omega
    simp [h, gh, RM.look, RM.tell]
theorem step_div (h3 : 3 ≤ p) : StepIs p 4 a b c n cs := by
  unfold StepIs
  simp [RM.step, cel3, wrk, mvg, RM.three, RM.rck, fr_fp, fr_ap, fr_pc, fr_rv]
  simp only [look_eq freshM_err, fr_cs]
  generalize (n.fp + a) % (p : Int) = X
  generalize (n.fp + b) % (p : Int) = Y
  generalize (n.fp + c) % (p : Int) = Z
  by_cases h : 0 ≤ finz cs X
  · have gh : ¬ finz cs (X) < 0 := by omega
    simp only [h, gh, if_true, if_false]
    have e1 : ((freshM cs n).shown X (cvl cs X)).err = 0 := rfl
    have e2 : ((freshM cs n).shown X (cvl cs X)).cs = cs := rfl
    rw [look_eq e1, e2]
    by_cases h2 : 0 ≤ finz cs Y
    · have gh2 : ¬ finz cs (Y) < 0 := by omega
      by_cases hv : cvl cs Y = 0
      · simp [h2, gh2, hv, RM.must, RM.tell, RM.shown, freshM]
      · simp only [h2, gh2, if_true, if_false]
        have e0 : (((freshM cs n).shown X (cvl cs X)).shown Y (cvl cs Y)).must (cvl cs Y != 0) = ((freshM cs n).shown X (cvl cs X)).shown Y (cvl cs Y) := by simp [RM.must, hv]
        rw [e0]
        have e3 : (((freshM cs n).shown X (cvl cs X)).shown Y (cvl cs Y)).err = 0 := rfl
        have e4 : (((freshM cs n).shown X (cvl cs X)).shown Y (cvl cs Y)).cs = cs := rfl
        have hb := rkn_bounds h3 4 (cvl cs X) (cvl cs Y)
        rw [tell_eq e3, e4, Int.emod_eq_of_lt hb.1 hb.2]
        by_cases h5 : (tel cs Z (rkn p 4 (cvl cs X) (cvl cs Y))).1 = 0
        · simp [h5, hv, RM.shown, freshM, RM.now, stl, updM, tel_is h5, (tel_keep h5 h).1, (tel_keep h5 h2).1]
        · simp [hv, (tel_two _ _ _).resolve_left h5]
    · have gh2 : finz cs (Y) < 0 := by omega
      simp [h2, gh2, RM.must, RM.tell]
  · have gh : finz cs (X) < 0 := by omega
    simp [h, gh, RM.look, RM.must, RM.tell]
theorem step_is (op : Int) (h3 : 3 ≤ p) (hz : Zer cs) (hr : RgB p n) (hb : ∀ x, 0 ≤ cvl cs x ∧ cvl cs x < p) : StepIs p op a b c n cs := by
  by_cases h0 : op = 0; · subst h0; exact step_halt hz
  by_cases h1 : op = 1; · exact step_three (.inl h1) h3
  by_cases h2 : op = 2; · exact step_three (.inr (.inl h2)) h3
  by_cases h3' : op = 3; · exact step_three (.inr (.inr (.inl h3'))) h3
  by_cases h4 : op = 4; · subst h4; exact step_div h3
  by_cases h5 : op = 5; · subst h5; exact step_set hz
  by_cases h6 : op = 6; · exact step_three (.inr (.inr (.inr h6))) h3
  by_cases h7 : op = 7; · subst h7; exact step_must hz
  by_cases h8 : op = 8; · subst h8; exact step_jump hz
  by_cases h9 : op = 9; · subst h9; exact step_zero hz
  by_cases h10 : op = 10; · subst h10; exact step_call hz hr
  by_cases h11 : op = 11; · subst h11; exact step_back
  by_cases h12 : op = 12; · subst h12; exact step_take hz hr
  by_cases h13 : op = 13; · subst h13; exact step_pass hz hb
  exact step_other ⟨h0, h1, h2, h3', h4, h5, h6, h7, h8, h9, h10, h11, h12, h13⟩
end

end Go.Proofs.YtfppkjpgihnibaaGreat
