/- Package machine: step, the walk. -/
import Derived.Test.YtaibngnabhmabajGreatDoorBtAK
namespace Go.Proofs.YtaibngnabhmabajGreatDoor
open Go.RowKit Go.Maps

/-- how a step ends -/
def SpR (p R b B nB : Nat) (aL : Option Addr) (nL cL : Nat) (op ia ib ic : Int) (n : Rg) (cs : List (Int × Int)) (w : World) (e : Ending) (w' : World) : Prop :=
  let x := cel3 p op ia ib ic n.fp n.ap
  let r := wrk p op ib (x 0) (x 1) (x 2) n cs
  Gr2 B R w w' ∧ ((r.1 = 0 ∧ e = .returned (.agg #[.int .i64 n.pc, .int .i64 n.fp, .int .i64 n.ap, .int .i64 n.rv, .int .i64 (x 0), .int .i64 (x 1), .int .i64 (x 2), .int .i64 (cvl r.2 (x 0)), .int .i64 (cvl r.2 (x 1)), .int .i64 (cvl r.2 (x 2))]) ∧ RnAt w' R b B aL nL cL (mvg p op ia ib n (cvl r.2 (x 0)) (cvl r.2 (x 1)) (cvl r.2 (x 2))) ∧ MapAt w' B nB r.2) ∨ (r.1 = 7 ∧ e = pnc 192) ∨ (r.1 = 10 ∧ e = pnc 191))
theorem cel3_fit {p : Nat} (h3 : 3 ≤ p) (h4 : p ≤ 2147483647) (op a b c fp ap : Int) (i : Nat) : I64 (cel3 p op a b c fp ap i) := by
  have e : ∀ x : Int, I64 (x % (p : Int)) := fun x => by have := emod_bounds x p h3; exact ⟨by omega, by omega⟩
  have z : I64 0 := ⟨by decide, by decide⟩
  unfold cel3
  repeat' split
  all_goals first | exact e _ | exact z

set_option maxRecDepth 100000 in
set_option maxHeartbeats 4000000 in
theorem pstep_any (p R b B nB : Nat) (aL : Option Addr) (nL cL : Nat) (op ia ib ic : Int) (n : Rg) (cs : List (Int × Int)) (w : World) (h3 : 3 ≤ p) (h4 : p ≤ 2147483647) (hpr : Num.Prime p) (hR : RnAt w R b B aL nL cL n) (hM : MapAt w B nB cs) (hp : w.cell? ⟨b, 0, none⟩ = some (.int .i64 p)) (hnB : nB + 2 < maxLen) (hcs : ∀ x, 0 ≤ cvl cs x ∧ cvl cs x < p) (hi : I64 ia ∧ I64 ib ∧ I64 ic) (hn : I64 n.pc ∧ I64 n.fp ∧ I64 n.ap ∧ I64 n.rv) (hne : b ≠ R) :
    Calls Tryz.prog 128 #[.pointer (some ⟨R, 0, none⟩), .agg #[.int .i64 op, .int .i64 ia, .int .i64 ib, .int .i64 ic]] w (SpR p R b B (nB + 2) aL nL cL op ia ib ic n cs w) := by
  obtain ⟨W0, hW0⟩ : ∃ W0, W0 = (w.alloc (.cells #[.int .i64 op, .int .i64 ia, .int .i64 ib, .int .i64 ic] 52)).alloc (.cells #[.int .i64 0, .int .i64 0, .int .i64 0, .int .i64 0, .int .i64 0, .int .i64 0, .int .i64 0, .int .i64 0, .int .i64 0, .int .i64 0] 135) := ⟨_, rfl⟩
  obtain ⟨V, hV⟩ : ∃ V, V = w.alloc (.cells #[.int .i64 op, .int .i64 ia, .int .i64 ib, .int .i64 ic] 52) := ⟨_, rfl⟩
  have b1 : Below w.heap.size w V := by rw [hV]; exact (Below.refl _ _).alloc (Nat.le_refl _) _
  have hs : V.heap.size = w.heap.size + 1 := by rw [hV]; simp
  have hiv : V.heap[w.heap.size]? = some (.cells #[.int .i64 op, .int .i64 ia, .int .i64 ib, .int .i64 ic] 52 (0, 0)) := by rw [hV]; exact heap_alloc_new w _
  have b2 : Below V.heap.size V W0 := by rw [hW0, ← hV]; exact (Below.refl _ _).alloc (Nat.le_refl _) _
  have hb0 := b1.trans (b2.mono b1.size)
  have hi0 := (b2.block w.heap.size (by omega)).trans hiv
  have hz0 : W0.rowIs (w.heap.size + 1) 135 10 (fun _ => .int .i64 0) := by
    rw [hW0, ← hV, ← hs]
    exact row_newM V _ _ 10 _ rfl (fun i hi => by rcases ten hi with rfl | rfl | rfl | rfl | rfl | rfl | rfl | rfl | rfl | rfl <;> rfl)
  obtain ⟨C, hC⟩ : ∃ C, C = w.heap.size := ⟨_, rfl⟩
  rw [← hC] at hi0 hz0
  have hR0 : RnAt W0 R b B aL nL cL n := hR.of_block (hb0.block _ hR.lt)
  have hM0 : MapAt W0 B nB cs := hM.kept (gb_noneM hb0) (by simp)
  have hp0 := (hb0.cell (p := ⟨b, 0, none⟩) (World.block_lt_of_cell? _ _ hp)).trans hp
  have HB0 := hid hb0
  have HI0 := hid hi0
  have HZ0 := hid hz0
  have HR0 := hid hR0
  have HM0 := hid hM0
  have HP0 := hid hp0
  have HCN := hid hC
  have HNE := hid hne
  have HBL := hid (World.block_lt_of_cell? _ _ hp)
  have HNB := hid hnB
  have HCS := hid hcs
  have HII := hid hi
  have HNN := hid hn
  have HPR := hid hpr
  have c0 : W0.cell? ⟨R, 0, none⟩ = some (.pointer (some ⟨b, 0, none⟩)) := hR0.cell (i := 0) (by decide)
  have c3 : W0.cell? ⟨R, 3, none⟩ = some (.int .i64 n.pc) := hR0.cell (i := 3) (by decide)
  have c4 : W0.cell? ⟨R, 4, none⟩ = some (.int .i64 n.fp) := hR0.cell (i := 4) (by decide)
  have c5 : W0.cell? ⟨R, 5, none⟩ = some (.int .i64 n.ap) := hR0.cell (i := 5) (by decide)
  have c6 : W0.cell? ⟨R, 6, none⟩ = some (.int .i64 n.rv) := hR0.cell (i := 6) (by decide)
  have j0 := fourM0 hi0
  have j1 := fourM1 hi0
  have j2 := fourM2 hi0
  have j3 := fourM3 hi0
  have HKP : Hid (∀ W, Below W0.heap.size W0 W → (fun W => W.cell? ⟨R, 0, none⟩ = some (.pointer (some ⟨b, 0, none⟩)) ∧ W.cell? ⟨R, 3, none⟩ = some (.int .i64 n.pc) ∧ W.cell? ⟨R, 4, none⟩ = some (.int .i64 n.fp) ∧ W.cell? ⟨R, 5, none⟩ = some (.int .i64 n.ap) ∧ W.cell? ⟨R, 6, none⟩ = some (.int .i64 n.rv) ∧ W.cell? ⟨C, 0, none⟩ = some (.int .i64 op) ∧ W.cell? ⟨C, 1, none⟩ = some (.int .i64 ia) ∧ W.cell? ⟨C, 2, none⟩ = some (.int .i64 ib) ∧ W.cell? ⟨C, 3, none⟩ = some (.int .i64 ic)) W) := fun W hb => ⟨(hb.cell (p := ⟨R, 0, none⟩) (World.block_lt_of_cell? _ _ c0)).trans c0, (hb.cell (p := ⟨R, 3, none⟩) (World.block_lt_of_cell? _ _ c3)).trans c3, (hb.cell (p := ⟨R, 4, none⟩) (World.block_lt_of_cell? _ _ c4)).trans c4, (hb.cell (p := ⟨R, 5, none⟩) (World.block_lt_of_cell? _ _ c5)).trans c5, (hb.cell (p := ⟨R, 6, none⟩) (World.block_lt_of_cell? _ _ c6)).trans c6, (hb.cell (p := ⟨C, 0, none⟩) (World.block_lt_of_cell? _ _ j0)).trans j0, (hb.cell (p := ⟨C, 1, none⟩) (World.block_lt_of_cell? _ _ j1)).trans j1, (hb.cell (p := ⟨C, 2, none⟩) (World.block_lt_of_cell? _ _ j2)).trans j2, (hb.cell (p := ⟨C, 3, none⟩) (World.block_lt_of_cell? _ _ j3)).trans j3⟩
  obtain ⟨x, hx⟩ : ∃ x, x = cel3 p op ia ib ic n.fp n.ap := ⟨_, rfl⟩
  have HX := hid hx
  have HCE : Hid (∀ W, Below W0.heap.size W0 W → Calls Tryz.prog 169 #[.pointer (some ⟨b, 0, none⟩), .agg #[.int .i64 op, .int .i64 ia, .int .i64 ib, .int .i64 ic], .int .i64 n.fp, .int .i64 n.ap] W fun e w' => e = .returned (.agg #[.int .i64 (x 0), .int .i64 (x 1), .int .i64 (x 2)]) ∧ Below W.heap.size W w') := fun W hb => by
    rw [hx]
    exact pcells_any p b op ia ib ic n.fp n.ap W h3 h4 ((hb.cell (p := ⟨b, 0, none⟩) (World.block_lt_of_cell? _ _ hp0)).trans hp0) ⟨hi.1, hi.2.1, hi.2.2, hn.2.1, hn.2.2.1⟩
  clear hV b1 hs hiv b2 hb0 hi0 hz0 hR0 hM0 hp0 hR hM hp hnB hcs hi hn hne hpr hx
  have hix0 := ix3_0
  have hix1 := ix3_1
  have hix2 := ix3_2
  go_enter Tryz.func128, Tryz.ntmps128
  go_wp2_with fail
  rw [← hW0, ← hC]
  clear hW0 hC
  refine wp_region_held_drew (S := (fun W => W.cell? ⟨R, 0, none⟩ = some (.pointer (some ⟨b, 0, none⟩)) ∧ W.cell? ⟨R, 3, none⟩ = some (.int .i64 n.pc) ∧ W.cell? ⟨R, 4, none⟩ = some (.int .i64 n.fp) ∧ W.cell? ⟨R, 5, none⟩ = some (.int .i64 n.ap) ∧ W.cell? ⟨R, 6, none⟩ = some (.int .i64 n.rv) ∧ W.cell? ⟨C, 0, none⟩ = some (.int .i64 op) ∧ W.cell? ⟨C, 1, none⟩ = some (.int .i64 ia) ∧ W.cell? ⟨C, 2, none⟩ = some (.int .i64 ib) ∧ W.cell? ⟨C, 3, none⟩ = some (.int .i64 ic))) (by kernel_rfl) ⟨c0, c3, c4, c5, c6, j0, j1, j2, j3⟩ (fun hHeld => ?_)
  refine wpAnyH_takeW (i := 0) (v := .pointer (some ⟨R, 0, none⟩)) rfl (by kernel_rfl) (by kernel_rfl) (by kernel_rfl) (fun _ _ _ h => h) (by rfl) (fun W hC => by (obtain ⟨y0, y3, y4, y5, y6, z0, z1, z2, z3⟩ := hC); go_simp) hHeld ?_
  simp only [Act.put, List.setIfInBounds_toArray, List.set_cons_zero, List.set_cons_succ]
  refine wpAnyH_takeW (i := 1) (v := .pointer (some ⟨R, 0, none⟩)) rfl (by kernel_rfl) (by kernel_rfl) (by kernel_rfl) (fun _ _ _ h => h) (by rfl) (fun W hC => by (obtain ⟨y0, y3, y4, y5, y6, z0, z1, z2, z3⟩ := hC); go_simp) hHeld ?_
  simp only [Act.put, List.setIfInBounds_toArray, List.set_cons_zero, List.set_cons_succ]
  refine wpAnyH_takeW (i := 2) (v := .pointer (some ⟨R, 3, none⟩)) rfl (by kernel_rfl) (by kernel_rfl) (by kernel_rfl) (fun _ _ _ h => h) (by rfl) (fun W hC => by (obtain ⟨y0, y3, y4, y5, y6, z0, z1, z2, z3⟩ := hC); go_simp) hHeld ?_
  simp only [Act.put, List.setIfInBounds_toArray, List.set_cons_zero, List.set_cons_succ]
  refine wpAnyH_takeW (i := 3) (v := .int .i64 n.pc) rfl (by kernel_rfl) (by kernel_rfl) (by kernel_rfl) (fun _ _ _ h => h) (by rfl) (fun W hC => by (obtain ⟨y0, y3, y4, y5, y6, z0, z1, z2, z3⟩ := hC); go_simp) hHeld ?_
  simp only [Act.put, List.setIfInBounds_toArray, List.set_cons_zero, List.set_cons_succ]
  refine wpAnyH_takeW (i := 4) (v := .pointer (some ⟨R, 0, none⟩)) rfl (by kernel_rfl) (by kernel_rfl) (by kernel_rfl) (fun _ _ _ h => h) (by rfl) (fun W hC => by (obtain ⟨y0, y3, y4, y5, y6, z0, z1, z2, z3⟩ := hC); go_simp) hHeld ?_
  simp only [Act.put, List.setIfInBounds_toArray, List.set_cons_zero, List.set_cons_succ]
  refine wpAnyH_takeW (i := 5) (v := .pointer (some ⟨R, 0, none⟩)) rfl (by kernel_rfl) (by kernel_rfl) (by kernel_rfl) (fun _ _ _ h => h) (by rfl) (fun W hC => by (obtain ⟨y0, y3, y4, y5, y6, z0, z1, z2, z3⟩ := hC); go_simp) hHeld ?_
  simp only [Act.put, List.setIfInBounds_toArray, List.set_cons_zero, List.set_cons_succ]
  refine wpAnyH_takeW (i := 6) (v := .pointer (some ⟨R, 4, none⟩)) rfl (by kernel_rfl) (by kernel_rfl) (by kernel_rfl) (fun _ _ _ h => h) (by rfl) (fun W hC => by (obtain ⟨y0, y3, y4, y5, y6, z0, z1, z2, z3⟩ := hC); go_simp) hHeld ?_
  simp only [Act.put, List.setIfInBounds_toArray, List.set_cons_zero, List.set_cons_succ]
  refine wpAnyH_takeW (i := 7) (v := .int .i64 n.fp) rfl (by kernel_rfl) (by kernel_rfl) (by kernel_rfl) (fun _ _ _ h => h) (by rfl) (fun W hC => by (obtain ⟨y0, y3, y4, y5, y6, z0, z1, z2, z3⟩ := hC); go_simp) hHeld ?_
  simp only [Act.put, List.setIfInBounds_toArray, List.set_cons_zero, List.set_cons_succ]
  refine wpAnyH_takeW (i := 8) (v := .pointer (some ⟨R, 0, none⟩)) rfl (by kernel_rfl) (by kernel_rfl) (by kernel_rfl) (fun _ _ _ h => h) (by rfl) (fun W hC => by (obtain ⟨y0, y3, y4, y5, y6, z0, z1, z2, z3⟩ := hC); go_simp) hHeld ?_
  simp only [Act.put, List.setIfInBounds_toArray, List.set_cons_zero, List.set_cons_succ]
  refine wpAnyH_takeW (i := 9) (v := .pointer (some ⟨R, 0, none⟩)) rfl (by kernel_rfl) (by kernel_rfl) (by kernel_rfl) (fun _ _ _ h => h) (by rfl) (fun W hC => by (obtain ⟨y0, y3, y4, y5, y6, z0, z1, z2, z3⟩ := hC); go_simp) hHeld ?_
  simp only [Act.put, List.setIfInBounds_toArray, List.set_cons_zero, List.set_cons_succ]
  refine wpAnyH_takeW (i := 10) (v := .pointer (some ⟨R, 5, none⟩)) rfl (by kernel_rfl) (by kernel_rfl) (by kernel_rfl) (fun _ _ _ h => h) (by rfl) (fun W hC => by (obtain ⟨y0, y3, y4, y5, y6, z0, z1, z2, z3⟩ := hC); go_simp) hHeld ?_
  simp only [Act.put, List.setIfInBounds_toArray, List.set_cons_zero, List.set_cons_succ]
  refine wpAnyH_takeW (i := 11) (v := .int .i64 n.ap) rfl (by kernel_rfl) (by kernel_rfl) (by kernel_rfl) (fun _ _ _ h => h) (by rfl) (fun W hC => by (obtain ⟨y0, y3, y4, y5, y6, z0, z1, z2, z3⟩ := hC); go_simp) hHeld ?_
  simp only [Act.put, List.setIfInBounds_toArray, List.set_cons_zero, List.set_cons_succ]
  refine wpAnyH_takeW (i := 12) (v := .pointer (some ⟨R, 0, none⟩)) rfl (by kernel_rfl) (by kernel_rfl) (by kernel_rfl) (fun _ _ _ h => h) (by rfl) (fun W hC => by (obtain ⟨y0, y3, y4, y5, y6, z0, z1, z2, z3⟩ := hC); go_simp) hHeld ?_
  simp only [Act.put, List.setIfInBounds_toArray, List.set_cons_zero, List.set_cons_succ]
  refine wpAnyH_takeW (i := 13) (v := .pointer (some ⟨R, 0, none⟩)) rfl (by kernel_rfl) (by kernel_rfl) (by kernel_rfl) (fun _ _ _ h => h) (by rfl) (fun W hC => by (obtain ⟨y0, y3, y4, y5, y6, z0, z1, z2, z3⟩ := hC); go_simp) hHeld ?_
  simp only [Act.put, List.setIfInBounds_toArray, List.set_cons_zero, List.set_cons_succ]
  refine wpAnyH_takeW (i := 14) (v := .pointer (some ⟨R, 6, none⟩)) rfl (by kernel_rfl) (by kernel_rfl) (by kernel_rfl) (fun _ _ _ h => h) (by rfl) (fun W hC => by (obtain ⟨y0, y3, y4, y5, y6, z0, z1, z2, z3⟩ := hC); go_simp) hHeld ?_
  simp only [Act.put, List.setIfInBounds_toArray, List.set_cons_zero, List.set_cons_succ]
  refine wpAnyH_takeW (i := 15) (v := .int .i64 n.rv) rfl (by kernel_rfl) (by kernel_rfl) (by kernel_rfl) (fun _ _ _ h => h) (by rfl) (fun W hC => by (obtain ⟨y0, y3, y4, y5, y6, z0, z1, z2, z3⟩ := hC); go_simp) hHeld ?_
  simp only [Act.put, List.setIfInBounds_toArray, List.set_cons_zero, List.set_cons_succ]
  refine wpAnyH_takeW (i := 16) (v := .pointer (some ⟨R, 0, none⟩)) rfl (by kernel_rfl) (by kernel_rfl) (by kernel_rfl) (fun _ _ _ h => h) (by rfl) (fun W hC => by (obtain ⟨y0, y3, y4, y5, y6, z0, z1, z2, z3⟩ := hC); go_simp) hHeld ?_
  simp only [Act.put, List.setIfInBounds_toArray, List.set_cons_zero, List.set_cons_succ]
  refine wpAnyH_takeW (i := 17) (v := .pointer (some ⟨R, 0, none⟩)) rfl (by kernel_rfl) (by kernel_rfl) (by kernel_rfl) (fun _ _ _ h => h) (by rfl) (fun W hC => by (obtain ⟨y0, y3, y4, y5, y6, z0, z1, z2, z3⟩ := hC); go_simp) hHeld ?_
  simp only [Act.put, List.setIfInBounds_toArray, List.set_cons_zero, List.set_cons_succ]
  refine wpAnyH_takeW (i := 18) (v := .pointer (some ⟨R, 0, none⟩)) rfl (by kernel_rfl) (by kernel_rfl) (by kernel_rfl) (fun _ _ _ h => h) (by rfl) (fun W hC => by (obtain ⟨y0, y3, y4, y5, y6, z0, z1, z2, z3⟩ := hC); go_simp) hHeld ?_
  simp only [Act.put, List.setIfInBounds_toArray, List.set_cons_zero, List.set_cons_succ]
  refine wpAnyH_takeW (i := 19) (v := .pointer (some ⟨b, 0, none⟩)) rfl (by kernel_rfl) (by kernel_rfl) (by kernel_rfl) (fun _ _ _ h => h) (by rfl) (fun W hC => by (obtain ⟨y0, y3, y4, y5, y6, z0, z1, z2, z3⟩ := hC); go_simp) hHeld ?_
  simp only [Act.put, List.setIfInBounds_toArray, List.set_cons_zero, List.set_cons_succ]
  refine wpAnyH_takeW (i := 20) (v := .agg #[.int .i64 op, .int .i64 ia, .int .i64 ib, .int .i64 ic]) rfl (by kernel_rfl) (by kernel_rfl) (by kernel_rfl) (fun _ _ _ h => h) (by rfl) (fun W hC => by (obtain ⟨y0, y3, y4, y5, y6, z0, z1, z2, z3⟩ := hC); go_simp) hHeld ?_
  simp only [Act.put, List.setIfInBounds_toArray, List.set_cons_zero, List.set_cons_succ]
  refine wpAnyH_takeW (i := 21) (v := .pointer (some ⟨R, 0, none⟩)) rfl (by kernel_rfl) (by kernel_rfl) (by kernel_rfl) (fun _ _ _ h => h) (by rfl) (fun W hC => by (obtain ⟨y0, y3, y4, y5, y6, z0, z1, z2, z3⟩ := hC); go_simp) hHeld ?_
  simp only [Act.put, List.setIfInBounds_toArray, List.set_cons_zero, List.set_cons_succ]
  refine wpAnyH_takeW (i := 22) (v := .pointer (some ⟨R, 0, none⟩)) rfl (by kernel_rfl) (by kernel_rfl) (by kernel_rfl) (fun _ _ _ h => h) (by rfl) (fun W hC => by (obtain ⟨y0, y3, y4, y5, y6, z0, z1, z2, z3⟩ := hC); go_simp) hHeld ?_
  simp only [Act.put, List.setIfInBounds_toArray, List.set_cons_zero, List.set_cons_succ]
  refine wpAnyH_takeW (i := 23) (v := .pointer (some ⟨R, 4, none⟩)) rfl (by kernel_rfl) (by kernel_rfl) (by kernel_rfl) (fun _ _ _ h => h) (by rfl) (fun W hC => by (obtain ⟨y0, y3, y4, y5, y6, z0, z1, z2, z3⟩ := hC); go_simp) hHeld ?_
  simp only [Act.put, List.setIfInBounds_toArray, List.set_cons_zero, List.set_cons_succ]
  refine wpAnyH_takeW (i := 24) (v := .int .i64 n.fp) rfl (by kernel_rfl) (by kernel_rfl) (by kernel_rfl) (fun _ _ _ h => h) (by rfl) (fun W hC => by (obtain ⟨y0, y3, y4, y5, y6, z0, z1, z2, z3⟩ := hC); go_simp) hHeld ?_
  simp only [Act.put, List.setIfInBounds_toArray, List.set_cons_zero, List.set_cons_succ]
  refine wpAnyH_takeW (i := 25) (v := .pointer (some ⟨R, 0, none⟩)) rfl (by kernel_rfl) (by kernel_rfl) (by kernel_rfl) (fun _ _ _ h => h) (by rfl) (fun W hC => by (obtain ⟨y0, y3, y4, y5, y6, z0, z1, z2, z3⟩ := hC); go_simp) hHeld ?_
  simp only [Act.put, List.setIfInBounds_toArray, List.set_cons_zero, List.set_cons_succ]
  refine wpAnyH_takeW (i := 26) (v := .pointer (some ⟨R, 0, none⟩)) rfl (by kernel_rfl) (by kernel_rfl) (by kernel_rfl) (fun _ _ _ h => h) (by rfl) (fun W hC => by (obtain ⟨y0, y3, y4, y5, y6, z0, z1, z2, z3⟩ := hC); go_simp) hHeld ?_
  simp only [Act.put, List.setIfInBounds_toArray, List.set_cons_zero, List.set_cons_succ]
  refine wpAnyH_takeW (i := 27) (v := .pointer (some ⟨R, 5, none⟩)) rfl (by kernel_rfl) (by kernel_rfl) (by kernel_rfl) (fun _ _ _ h => h) (by rfl) (fun W hC => by (obtain ⟨y0, y3, y4, y5, y6, z0, z1, z2, z3⟩ := hC); go_simp) hHeld ?_
  simp only [Act.put, List.setIfInBounds_toArray, List.set_cons_zero, List.set_cons_succ]
  refine wpAnyH_takeW (i := 28) (v := .int .i64 n.ap) rfl (by kernel_rfl) (by kernel_rfl) (by kernel_rfl) (fun _ _ _ h => h) (by rfl) (fun W hC => by (obtain ⟨y0, y3, y4, y5, y6, z0, z1, z2, z3⟩ := hC); go_simp) hHeld ?_
  simp only [Act.put, List.setIfInBounds_toArray, List.set_cons_zero, List.set_cons_succ]
  have hbd : Below W0.heap.size W0 W0.drew := ⟨rfl, rfl, rfl, Nat.le_refl _, fun _ _ => rfl⟩
  refine share (F := ?F) (Good := fun G W => Below W0.heap.size W0 W ∧ W.rowIs G 135 10 (fun _ => .int .i64 0) ∧ W0.heap.size ≤ G) (fun REST => ?b1) ?b2
  case b1 =>
    refine wpAnyH_ready (rs := [29, 31]) (by kernel_rfl) (by simp) ?_
    refine AllReadyH.consW rfl (fun K hK => ?_) (AllReadyH.consW rfl (fun K hK => ?_) AllReadyH.nil)
    · go_simp
      refine (HCE.out _ hbd).mono ?_
      rintro e w1 ⟨rfl, hb1⟩
      have hb01 : Below W0.heap.size W0 w1 := ⟨hb1.os, hb1.tape, hb1.output, hb1.size, hb1.block⟩
      refine hK.out _ _ (HKP.out w1 hb01) (fun hHeld => ?_)
      clear hK K
      refine wpAnyH_takeW (i := 30) (v := .agg #[.int .i64 n.pc, .int .i64 n.fp, .int .i64 n.ap, .int .i64 n.rv, .int .i64 (x 0), .int .i64 (x 1), .int .i64 (x 2), .int .i64 0, .int .i64 0, .int .i64 0]) rfl (by kernel_rfl) (by kernel_rfl) (by kernel_rfl) (fun _ _ _ h => h) (by rfl) (fun W hC => by (obtain ⟨y0, y3, y4, y5, y6, z0, z1, z2, z3⟩ := hC); go_simp) hHeld ?_
      simp only [Act.put, List.setIfInBounds_toArray, List.set_cons_zero, List.set_cons_succ]
      refine wpAnyH_ready (rs := [31]) (by kernel_rfl) (by simp) ?_
      refine AllReadyH.consW rfl (fun K hK => ?_) AllReadyH.nil
      go_simp
      have hb02 := hb01.trans (((Below.refl w1.heap.size w1).alloc (Nat.le_refl _) (.cells #[.int .i64 0, .int .i64 0, .int .i64 0, .int .i64 0, .int .i64 0, .int .i64 0, .int .i64 0, .int .i64 0, .int .i64 0, .int .i64 0] 135)).mono hb01.size)
      have hn10 := new10 w1
      have hsz := hb01.size
      refine hK.out _ _ (HKP.out _ hb02) (fun hHeld => ?_)
      clear hK K hb1 hb01 hHeld
      generalize w1.alloc (.cells #[.int .i64 0, .int .i64 0, .int .i64 0, .int .i64 0, .int .i64 0, .int .i64 0, .int .i64 0, .int .i64 0, .int .i64 0, .int .i64 0] 135) = W at *
      generalize w1.heap.size = G at *
      exact REST G W ⟨hb02, hn10, hsz⟩
    · go_simp
      have hn10 := new10 W0.drew
      have hbV : Below W0.heap.size W0 (W0.drew.alloc (.cells #[.int .i64 0, .int .i64 0, .int .i64 0, .int .i64 0, .int .i64 0, .int .i64 0, .int .i64 0, .int .i64 0, .int .i64 0, .int .i64 0] 135)) := hbd.alloc (Nat.le_refl _) _
      refine hK.out _ _ (HKP.out _ hbV) (fun hHeld => ?_)
      clear hK K
      refine wpAnyH_ready (rs := [29]) (by kernel_rfl) (by simp) ?_
      refine AllReadyH.consW rfl (fun K hK => ?_) AllReadyH.nil
      go_simp
      refine (HCE.out _ hbV).mono ?_
      rintro e w1 ⟨rfl, hb1⟩
      have hb01 := hbV.trans (hb1.mono hbV.size)
      refine hK.out _ _ (HKP.out w1 hb01) (fun hHeld => ?_)
      clear hK K
      refine wpAnyH_takeW (i := 30) (v := .agg #[.int .i64 n.pc, .int .i64 n.fp, .int .i64 n.ap, .int .i64 n.rv, .int .i64 (x 0), .int .i64 (x 1), .int .i64 (x 2), .int .i64 0, .int .i64 0, .int .i64 0]) rfl (by kernel_rfl) (by kernel_rfl) (by kernel_rfl) (fun _ _ _ h => h) (by rfl) (fun W hC => by (obtain ⟨y0, y3, y4, y5, y6, z0, z1, z2, z3⟩ := hC); go_simp) hHeld ?_
      simp only [Act.put, List.setIfInBounds_toArray, List.set_cons_zero, List.set_cons_succ]
      exact REST _ w1 ⟨hb01, hn10.of_block (hb1.block _ hn10.lt), Nat.le_refl _⟩
  case b2 =>
    rintro G W ⟨hbW, hrG, hGs⟩
    have hfz := hrG.frozen
    have HRG := hid hrG
    have HBW := hid hbW
    have HGS := hid hGs
    have g0 := hrG.cell (i := 0) (by decide)
    have g1 := hrG.cell (i := 1) (by decide)
    have g2 := hrG.cell (i := 2) (by decide)
    have g3 := hrG.cell (i := 3) (by decide)
    have g4 := hrG.cell (i := 4) (by decide)
    have g5 := hrG.cell (i := 5) (by decide)
    have g6 := hrG.cell (i := 6) (by decide)
    have g7 := hrG.cell (i := 7) (by decide)
    have g8 := hrG.cell (i := 8) (by decide)
    have g9 := hrG.cell (i := 9) (by decide)
    clear hrG hbW hGs
    refine wpAnyH_ready (rs := [32]) (by kernel_rfl) (by simp) ?_
    refine AllReadyH.consW rfl (fun K hK => ?_) AllReadyH.nil
    go_simp
    have hbP := put10_below HBW.out HGS.out (st10 n x (fun _ => 0))
    have HSP := hid (SpP.of (C := C) (G := G) HR0.out HM0.out HP0.out HI0.out HZ0.out HB0.out hbP (put10_row HRG.out (st10 n x (fun _ => 0))) (Nat.le_of_eq HCN.out.symm) HGS.out)
    refine hK.out _ (put10 W G (st10 n x (fun _ => 0))) (HKP.out _ hbP) (fun hHeld => ?_)
    clear hK K hHeld
    refine wpAnyH_done (by kernel_rfl) ?_ _
    clear hbP hbd HBW HRG HGS hfz g0 g1 g2 g3 g4 g5 g6 g7 g8 g9 HCE HKP c0 c3 c4 c5 c6 j0 j1 j2 j3 HR0 HM0 HP0 HI0 HZ0 HB0
    generalize put10 W G (st10 n x (fun _ => 0)) = W2 at *
    have k4 := HSP.out.s.cell (i := 4) (by decide)
    have k5 := HSP.out.s.cell (i := 5) (by decide)
    have k6 := HSP.out.s.cell (i := 6) (by decide)
    simp only [st10] at k4 k5 k6
    have j0 := fourM0 HSP.out.i
    have j1 := fourM1 HSP.out.i
    have j2 := fourM2 HSP.out.i
    have j3 := fourM3 HSP.out.i
    have HWK := hid (pwork_any p R b B nB aL nL cL op ia ib ic (x 0) (x 1) (x 2) n cs W2 h3 h4 HPR.out HSP.out.rn HSP.out.mp HSP.out.hp HNB.out ⟨by rw [HX.out]; exact cel3_fit h3 h4 _ _ _ _ _ _ _, by rw [HX.out]; exact cel3_fit h3 h4 _ _ _ _ _ _ _, by rw [HX.out]; exact cel3_fit h3 h4 _ _ _ _ _ _ _⟩ HCS.out HII.out.2.1 ⟨HNN.out.1, HNN.out.2.1, HNN.out.2.2.2⟩)
    go_wp2_with fail
    refine HWK.out.mono ?_
    rintro e w3 ⟨hg3, hw3⟩
    obtain ⟨r, hr⟩ : ∃ r, r = wrk p op ib (x 0) (x 1) (x 2) n cs := ⟨_, rfl⟩
    rw [← hr] at hw3
    have HSR : Hid (∀ e w', (Gr2 B R w w' ∧ ((r.1 = 0 ∧ e = .returned (.agg #[.int .i64 n.pc, .int .i64 n.fp, .int .i64 n.ap, .int .i64 n.rv, .int .i64 (x 0), .int .i64 (x 1), .int .i64 (x 2), .int .i64 (cvl r.2 (x 0)), .int .i64 (cvl r.2 (x 1)), .int .i64 (cvl r.2 (x 2))]) ∧ RnAt w' R b B aL nL cL (mvg p op ia ib n (cvl r.2 (x 0)) (cvl r.2 (x 1)) (cvl r.2 (x 2))) ∧ MapAt w' B (nB + 2) r.2) ∨ (r.1 = 7 ∧ e = pnc 192) ∨ (r.1 = 10 ∧ e = pnc 191))) → SpR p R b B (nB + 2) aL nL cL op ia ib ic n cs w e w') := fun e w' h => by
      unfold SpR
      rw [← HX.out]
      simp only [← hr]
      exact h
    have HXF : Hid (I64 (x 0) ∧ I64 (x 1) ∧ I64 (x 2)) := ⟨by rw [HX.out]; exact cel3_fit h3 h4 _ _ _ _ _ _ _, by rw [HX.out]; exact cel3_fit h3 h4 _ _ _ _ _ _ _, by rw [HX.out]; exact cel3_fit h3 h4 _ _ _ _ _ _ _⟩
    rcases hw3 with ⟨h0, rfl, hm3⟩ | ⟨h7, rfl⟩ | ⟨h10, rfl⟩
    · have HS3 := hid (HSP.out.told hg3 hm3)
      have HH0 := hid h0
      obtain ⟨e7, cs2⟩ := r
      clear hg3 hm3 h0 hr HSP HWK k4 k5 k6 j0 j1 j2 j3
      have k4 := HS3.out.s.cell (i := 4) (by decide)
      have k5 := HS3.out.s.cell (i := 5) (by decide)
      have k6 := HS3.out.s.cell (i := 6) (by decide)
      simp only [st10] at k4 k5 k6
      go_wp2_with fail
      go_loopw [46] (fun u wr => ∃ j : Nat, j ≤ 3 ∧ u = .int .i64 (j : Int) ∧ Hid (SpP p R b B (nB + 2) C G aL nL cL op ia ib ic n cs2 n x (fil cs2 x j) w wr)) (fun u _ => (3 - intOf u).toNat)
      case atStart => exact ⟨0, by decide, rfl, HS3.out⟩
      case round =>
        obtain ⟨j, hj, rfl, HSJ⟩ := hrel
        obtain ⟨D, hD, hC⟩ := HSJ.out.mp
        have c2 : wr.cell? ⟨R, 2, none⟩ = some (.map (some B)) := HSJ.out.rn.cell (i := 2) (by decide)
        have hfz := HSJ.out.s.frozen
        have hj4 : j = 0 ∨ j = 1 ∨ j = 2 ∨ j = 3 := by omega
        rcases hj4 with rfl | rfl | rfl | rfl
        · have hlt : ((0 : Nat) : Int) < 3 := by decide
          have q0 : wr.cell? ⟨G, 7, none⟩ = some (.int .i64 (fil cs2 x 0 0)) := HSJ.out.s.cell (i := 7) (by decide)
          have HN := hid (HSJ.out.put 7 (cvl cs2 (x 0)) HBL.out (y' := fil cs2 x 1) (fun i hi => by rcases ten hi with rfl | rfl | rfl | rfl | rfl | rfl | rfl | rfl | rfl | rfl <;> simp [st10, fil]))
          go_wp2_with (at_lookup; refine wpList_lookup_own_int _ rfl _ _ 130 rfl 3 3 .i64 keyI Tryz.underlying130 Tryz.underlying3 (zeroI _) B (nB + 2) _ rfl hD _ _ rfl (key64 HXF.out.1) ?_; intro c hat hwc; obtain rfl : c = cvl cs2 (x 0) := by (rw [(hC (x 0) HXF.out.1).2] at hat; injection hat with hat; injection hat with _ hat; exact hat.symm))
          go_roundw
          case rel => exact ⟨1, by decide, rfl, HN.out⟩
          case measure => simp [intOf]
        · have hlt : ((1 : Nat) : Int) < 3 := by decide
          have q1 : wr.cell? ⟨G, 8, none⟩ = some (.int .i64 (fil cs2 x 1 1)) := HSJ.out.s.cell (i := 8) (by decide)
          have HN := hid (HSJ.out.put 8 (cvl cs2 (x 1)) HBL.out (y' := fil cs2 x 2) (fun i hi => by rcases ten hi with rfl | rfl | rfl | rfl | rfl | rfl | rfl | rfl | rfl | rfl <;> simp [st10, fil]))
          go_wp2_with (at_lookup; refine wpList_lookup_own_int _ rfl _ _ 130 rfl 3 3 .i64 keyI Tryz.underlying130 Tryz.underlying3 (zeroI _) B (nB + 2) _ rfl hD _ _ rfl (key64 HXF.out.2.1) ?_; intro c hat hwc; obtain rfl : c = cvl cs2 (x 1) := by (rw [(hC (x 1) HXF.out.2.1).2] at hat; injection hat with hat; injection hat with _ hat; exact hat.symm))
          go_roundw
          case rel => exact ⟨2, by decide, rfl, HN.out⟩
          case measure => simp [intOf]
        · have hlt : ((2 : Nat) : Int) < 3 := by decide
          have q2 : wr.cell? ⟨G, 9, none⟩ = some (.int .i64 (fil cs2 x 2 2)) := HSJ.out.s.cell (i := 9) (by decide)
          have HN := hid (HSJ.out.put 9 (cvl cs2 (x 2)) HBL.out (y' := fil cs2 x 3) (fun i hi => by rcases ten hi with rfl | rfl | rfl | rfl | rfl | rfl | rfl | rfl | rfl | rfl <;> simp [st10, fil]))
          go_wp2_with (at_lookup; refine wpList_lookup_own_int _ rfl _ _ 130 rfl 3 3 .i64 keyI Tryz.underlying130 Tryz.underlying3 (zeroI _) B (nB + 2) _ rfl hD _ _ rfl (key64 HXF.out.2.2) ?_; intro c hat hwc; obtain rfl : c = cvl cs2 (x 2) := by (rw [(hC (x 2) HXF.out.2.2).2] at hat; injection hat with hat; injection hat with _ hat; exact hat.symm))
          go_roundw
          case rel => exact ⟨3, by decide, rfl, HN.out⟩
          case measure => simp [intOf]
        · have hlt : ¬ ((3 : Nat) : Int) < 3 := by decide
          have i0 := fourM0 HSJ.out.i
          have i1 := fourM1 HSJ.out.i
          have i2 := fourM2 HSJ.out.i
          have i3 := fourM3 HSJ.out.i
          have s7 : wr.cell? ⟨G, 7, none⟩ = some (.int .i64 (cvl cs2 (x 0))) := HSJ.out.s.cell (i := 7) (by decide)
          have s8 : wr.cell? ⟨G, 8, none⟩ = some (.int .i64 (cvl cs2 (x 1))) := HSJ.out.s.cell (i := 8) (by decide)
          have s9 : wr.cell? ⟨G, 9, none⟩ = some (.int .i64 (cvl cs2 (x 2))) := HSJ.out.s.cell (i := 9) (by decide)
          have HMV := hid (pmove_any p R b B aL nL cL op ia ib ic (cvl cs2 (x 0)) (cvl cs2 (x 1)) (cvl cs2 (x 2)) n wr h3 h4 HSJ.out.rn HSJ.out.hp HNE.out ⟨HNN.out.1, HNN.out.2.2.1⟩ ⟨HII.out.1, HII.out.2.1⟩)
          have HMM := hid HSJ.out.mp
          clear hC hD hfz c2 hlt
          go_wp2_with fail
          refine HMV.out.mono ?_
          rintro e w4 ⟨rfl, hr4, hg4⟩
          have hKp : ∀ {k : Nat} {c' : Array Value} {t' : TypeId} {f' : Nat × Nat}, wr.heap[k]? = some (.cells c' t' f') → t' ≠ 198 → w4.heap[k]? = some (.cells c' t' f') := fun {k c' t' f'} hk ht => by
            refine (hg4.block k (Array.getElem?_eq_some_iff.1 hk).1 ?_).trans hk
            intro e
            injection e with e
            subst e
            obtain ⟨c, hc, _⟩ := HSJ.out.rn
            rw [hc] at hk
            injection hk with hk
            injection hk with _ h2 _
            exact ht h2.symm
          have hs4 : w4.rowIs G 135 10 (st10 n x (fil cs2 x 3)) := by obtain ⟨c, h1, h2⟩ := HSJ.out.s; exact ⟨c, hKp h1 (by decide), h2⟩
          have hz4 : w4.rowIs (C + 1) 135 10 (fun _ => .int .i64 0) := by obtain ⟨c, h1, h2⟩ := HSJ.out.z; exact ⟨c, hKp h1 (by decide), h2⟩
          have hm4 : MapAt w4 B (nB + 2) cs2 := HMM.out.kept hg4 (by
            intro e
            injection e with e
            subst e
            obtain ⟨c, hc, _⟩ := HSJ.out.rn
            exact map_ne HMM.out hc rfl)
          have hgp := put10_gb w4 (C + 1) (st10 n x (fil cs2 x 3))
          have HEND : Hid (SpR p R b B (nB + 2) aL nL cL op ia ib ic n cs w (.returned (.agg #[.int .i64 n.pc, .int .i64 n.fp, .int .i64 n.ap, .int .i64 n.rv, .int .i64 (x 0), .int .i64 (x 1), .int .i64 (x 2), .int .i64 (cvl cs2 (x 0)), .int .i64 (cvl cs2 (x 1)), .int .i64 (cvl cs2 (x 2))])) (put10 w4 (C + 1) (st10 n x (fil cs2 x 3)))) := by
            obtain ⟨c, hc, hcs⟩ := hz4
            obtain ⟨d, hd, hds⟩ := hr4
            have hCR : R ≠ C + 1 := by
              rintro rfl
              rw [hc] at hd
              injection hd with hd
              injection hd with _ h2 _
              exact absurd h2 (by decide)
            have hcN := HSJ.out.cN
            have g3 := HSJ.out.gr.trans (Gr2.of2 hg4)
            exact HSR.out _ _ ⟨⟨hgp.os.trans g3.os, hgp.tape.trans g3.tape, hgp.output.trans g3.output, Nat.le_trans g3.size hgp.size, fun k hk e1 e2 => (put10_oth _ _ _ k (by omega)).trans (g3.block k hk e1 e2)⟩, .inl ⟨HH0.out, rfl, World.rowIs.of_block ⟨d, hd, hds⟩ (put10_oth _ _ _ _ hCR), hm4.kept hgp (by intro e; injection e with e; exact map_ne hm4 hc e.symm)⟩⟩
          have HRS := hid (row10_arr (put10_row hz4 (st10 n x (fil cs2 x 3))))
          have y0 := hs4.cell (i := 0) (by decide)
          have y1 := hs4.cell (i := 1) (by decide)
          have y2 := hs4.cell (i := 2) (by decide)
          have y3 := hs4.cell (i := 3) (by decide)
          have y4 := hs4.cell (i := 4) (by decide)
          have y5 := hs4.cell (i := 5) (by decide)
          have y6 := hs4.cell (i := 6) (by decide)
          have y7 := hs4.cell (i := 7) (by decide)
          have y8 := hs4.cell (i := 8) (by decide)
          have y9 := hs4.cell (i := 9) (by decide)
          simp only [st10, fil] at y0 y1 y2 y3 y4 y5 y6 y7 y8 y9
          have z0 := hz4.cell (i := 0) (by decide)
          have z1 := hz4.cell (i := 1) (by decide)
          have z2 := hz4.cell (i := 2) (by decide)
          have z3 := hz4.cell (i := 3) (by decide)
          have z4 := hz4.cell (i := 4) (by decide)
          have z5 := hz4.cell (i := 5) (by decide)
          have z6 := hz4.cell (i := 6) (by decide)
          have z7 := hz4.cell (i := 7) (by decide)
          have z8 := hz4.cell (i := 8) (by decide)
          have z9 := hz4.cell (i := 9) (by decide)
          have hfz := hz4.frozen
          clear hr4 hg4 hs4 hz4 hm4 hgp i0 i1 i2 i3 s7 s8 s9 HMV HMM
          go_wp2_with fail
          (try simp only [Exit.inBlock, Exit.then])
          refine bodyPost_ret (results_cell_row rfl _ _ (C + 1) 135 #[.int .i64 n.pc, .int .i64 n.fp, .int .i64 n.ap, .int .i64 n.rv, .int .i64 (x 0), .int .i64 (x 1), .int .i64 (x 2), .int .i64 (cvl cs2 (x 0)), .int .i64 (cvl cs2 (x 1)), .int .i64 (cvl cs2 (x 2))] (0, 0) _ rfl HRS.out Tryz.underlying135 rfl (by kernel_rfl)) rfl ?_
          exact HEND.out
    · exact ⟨rfl, HSR.out _ _ ⟨HSP.out.gr.trans (Gr2.of1 hg3), .inr (.inl ⟨h7, rfl⟩)⟩⟩
    · exact ⟨rfl, HSR.out _ _ ⟨HSP.out.gr.trans (Gr2.of1 hg3), .inr (.inr ⟨h10, rfl⟩)⟩⟩

end Go.Proofs.YtaibngnabhmabajGreatDoor
