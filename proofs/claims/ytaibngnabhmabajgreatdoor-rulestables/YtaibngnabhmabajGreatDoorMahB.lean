/- Package machine: next. -/
import Derived.Test.YtaibngnabhmabajGreatDoorBtAH
import Derived.StillTailTactics
namespace Go.Proofs.YtaibngnabhmabajGreatDoor
open Go.RowKit Go.Maps

theorem row4_arr {W : World} {g : Nat} {t : TypeId} {f : Nat → Value} (h : W.rowIs g t 4 f) : W.heap[g]? = some (.cells #[f 0, f 1, f 2, f 3] t (0, 0)) := by
  obtain ⟨c, hb, hs, hc⟩ := h
  rw [hb]
  congr 2
  apply Array.ext
  · simpa using hs
  · intro i h1 h2
    have h4 : i < 4 := by simpa using h2
    have := hc i h4
    rw [Array.getElem?_eq_getElem h1] at this
    injection this with this
    rw [this]
    have : i = 0 ∨ i = 1 ∨ i = 2 ∨ i = 3 := by omega
    rcases this with rfl | rfl | rfl | rfl <;> rfl
theorem row4_of {W : World} {g : Nat} {t : TypeId} {a b c d : Value} (h : W.heap[g]? = some (.cells #[a, b, c, d] t (0, 0))) : W.rowIs g t 4 (fun i => #[a, b, c, d].getD i .nilFunc) :=
  ⟨_, h, rfl, fun i hi => by
    have : i = 0 ∨ i = 1 ∨ i = 2 ∨ i = 3 := by omega
    rcases this with rfl | rfl | rfl | rfl <;> rfl⟩
theorem put4_heap {W : World} {g : Nat} {t : TypeId} {z0 z1 z2 z3 : Value} (h : W.heap[g]? = some (.cells #[z0, z1, z2, z3] t (0, 0))) (a b c d : Value) : ((((W.setCell ⟨g, 0, none⟩ a).setCell ⟨g, 1, none⟩ b).setCell ⟨g, 2, none⟩ c).setCell ⟨g, 3, none⟩ d).heap[g]? = some (.cells #[a, b, c, d] t (0, 0)) := by
  have := row4_arr (((((row4_of h).set 0 a).set 1 b).set 2 c).set 3 d)
  simpa using this
theorem put4_oth (W : World) (g : Nat) (a b c d : Value) (k : Nat) (h : k ≠ g) : ((((W.setCell ⟨g, 0, none⟩ a).setCell ⟨g, 1, none⟩ b).setCell ⟨g, 2, none⟩ c).setCell ⟨g, 3, none⟩ d).heap[k]? = W.heap[k]? := by
  rw [Below.heap_setCell _ _ _ _ h, Below.heap_setCell _ _ _ _ h, Below.heap_setCell _ _ _ _ h, Below.heap_setCell _ _ _ _ h]
/-- four cells of a block that is new -/
theorem put4_below {N : Nat} {w W : World} {g : Nat} (e : Below N w W) (hg : N ≤ g) (a b c d : Value) : Below N w ((((W.setCell ⟨g, 0, none⟩ a).setCell ⟨g, 1, none⟩ b).setCell ⟨g, 2, none⟩ c).setCell ⟨g, 3, none⟩ d) :=
  ⟨e.os, e.tape, e.output, by simpa [World.setCell] using e.size, fun k hk => (put4_oth W g a b c d k (by omega)).trans (e.block k hk)⟩

set_option maxRecDepth 100000 in
set_option maxHeartbeats 1000000 in
theorem pnext_yes (R b B cL k : Nat) (aL : Option Addr) (L : List InsZ) (n : Rg) (w : World) (hR : RnAt w R b B aL L.length cL n) (hL : LstI w.heap.size w aL cL L) (hpc : n.pc = (k : Int)) (hk : k < L.length) :
    Calls Tryz.prog 127 #[.pointer (some ⟨R, 0, none⟩)] w fun e w' => e = .returned (.agg #[.int .i64 (insat L k).op, .int .i64 (insat L k).a, .int .i64 (insat L k).b, .int .i64 (insat L k).c]) ∧ Below w.heap.size w w' := by
  have hmx : Tryz.prog.follows .mixedOrders = true := by kernel_rfl
  obtain ⟨W0, hW0⟩ : ∃ W0, W0 = w.alloc (.cells #[.int .i64 0, .int .i64 0, .int .i64 0, .int .i64 0] 52) := ⟨_, rfl⟩
  have hb0 : Below w.heap.size w W0 := by rw [hW0]; exact (Below.refl _ _).alloc (Nat.le_refl _) _
  have hR0 : RnAt W0 R b B aL L.length cL n := hR.of_block (hb0.block _ hR.lt)
  have c1 : W0.cell? ⟨R, 1, none⟩ = some (.slice aL L.length cL) := hR0.cell (i := 1) (by decide)
  have c3 : W0.cell? ⟨R, 3, none⟩ = some (.int .i64 (k : Int)) := by rw [← hpc]; exact hR0.cell (i := 3) (by decide)
  obtain ⟨bL, oL, rfl, hbL, e0, e1, e2, e3⟩ := (hL.below hb0).row k hk
  have HB0 := hid hb0
  have HMU := hid (fun W => pmust_yes W)
  have hlt : (k : Int) < (L.length : Int) := by omega
  generalize (insat L k).op = op at *
  generalize (insat L k).a = ia at *
  generalize (insat L k).b = ib at *
  generalize (insat L k).c = ic at *
  generalize L.length = nL at *
  clear hR hR0 hL hb0 hpc
  go_enter Tryz.func127, Tryz.ntmps127
  go_wp2_with fail
  rw [← hW0]
  have hs0 : W0.heap[w.heap.size]? = some (.cells #[.int .i64 0, .int .i64 0, .int .i64 0, .int .i64 0] 52 (0, 0)) := by rw [hW0]; exact heap_alloc_new w _
  clear hW0
  go_still_tail 10, hmx
  go_wp2_with fail
  refine (HMU.out _).mono ?_
  rintro e w2 ⟨rfl, hw2⟩
  have d1 : w2.cell? ⟨R, 1, none⟩ = some (.slice (some ⟨bL, oL, none⟩) nL cL) := by rw [hw2]; exact c1
  have d3 : w2.cell? ⟨R, 3, none⟩ = some (.int .i64 (k : Int)) := by rw [hw2]; exact c3
  have f0 : w2.cell? ⟨bL, oL + k * 4, none⟩ = some (.int .i64 op) := by rw [hw2]; exact e0
  have f1 : w2.cell? ⟨bL, oL + k * 4 + 1, none⟩ = some (.int .i64 ia) := by rw [hw2]; exact e1
  have f2 : w2.cell? ⟨bL, oL + k * 4 + 2, none⟩ = some (.int .i64 ib) := by rw [hw2]; exact e2
  have f3 : w2.cell? ⟨bL, oL + k * 4 + 3, none⟩ = some (.int .i64 ic) := by rw [hw2]; exact e3
  have y0 : ∀ i, w2.frozen? ⟨w.heap.size, i, none⟩ = false := by rw [hw2]; exact (row4_of hs0).frozen
  have hs2 : w2.heap[w.heap.size]? = some (.cells #[.int .i64 0, .int .i64 0, .int .i64 0, .int .i64 0] 52 (0, 0)) := by rw [hw2]; exact hs0
  have z0 : w2.cell? ⟨w.heap.size, 0, none⟩ = some (.int .i64 0) := by simp [World.cell?, hs2]
  have z1 : w2.cell? ⟨w.heap.size, 1, none⟩ = some (.int .i64 0) := by simp [World.cell?, hs2]
  have z2 : w2.cell? ⟨w.heap.size, 2, none⟩ = some (.int .i64 0) := by simp [World.cell?, hs2]
  have z3 : w2.cell? ⟨w.heap.size, 3, none⟩ = some (.int .i64 0) := by simp [World.cell?, hs2]
  have HB2 : Hid (Below w.heap.size w w2) := by unfold Hid; rw [hw2]; exact HB0.out.drew
  have HS2 := hid (put4_heap hs2 (.int .i64 op) (.int .i64 ia) (.int .i64 ib) (.int .i64 ic))
  clear hs0 hs2 hw2 c1 c3 e0 e1 e2 e3 HB0
  go_wp2_with fail
  go_still_tail 10, hmx
  go_wp2_with fail
  (try simp only [Exit.inBlock, Exit.then])
  refine bodyPost_ret (results_cell_row rfl _ _ w.heap.size 52 #[.int .i64 op, .int .i64 ia, .int .i64 ib, .int .i64 ic] (0, 0) _ rfl HS2.out Tryz.underlying52 rfl (by kernel_rfl)) rfl ?_
  exact ⟨rfl, (put4_below HB2.out (Nat.le_refl _) _ _ _ _).drew⟩

set_option maxRecDepth 100000 in
set_option maxHeartbeats 1000000 in
theorem pnext_no (R b B cL k : Nat) (aL : Option Addr) (nL : Nat) (n : Rg) (w : World) (hR : RnAt w R b B aL nL cL n) (hpc : n.pc = (k : Int)) (hk : ¬ k < nL) :
    Calls Tryz.prog 127 #[.pointer (some ⟨R, 0, none⟩)] w fun e w' => e = pnc 192 ∧ Below w.heap.size w w' := by
  have hmx : Tryz.prog.follows .mixedOrders = true := by kernel_rfl
  obtain ⟨W0, hW0⟩ : ∃ W0, W0 = w.alloc (.cells #[.int .i64 0, .int .i64 0, .int .i64 0, .int .i64 0] 52) := ⟨_, rfl⟩
  have hb0 : Below w.heap.size w W0 := by rw [hW0]; exact (Below.refl _ _).alloc (Nat.le_refl _) _
  have hR0 : RnAt W0 R b B aL nL cL n := hR.of_block (hb0.block _ hR.lt)
  have c1 : W0.cell? ⟨R, 1, none⟩ = some (.slice aL nL cL) := hR0.cell (i := 1) (by decide)
  have c3 : W0.cell? ⟨R, 3, none⟩ = some (.int .i64 (k : Int)) := by rw [← hpc]; exact hR0.cell (i := 3) (by decide)
  have HB0 := hid hb0
  have HMU := hid (fun W => pmust_no W)
  have hlt : ¬ (k : Int) < (nL : Int) := by omega
  clear hR hR0 hb0 hpc
  go_enter Tryz.func127, Tryz.ntmps127
  go_wp2_with fail
  rw [← hW0]
  clear hW0
  go_still_tail 10, hmx
  go_wp2_with fail
  refine (HMU.out _).mono ?_
  rintro e w2 ⟨rfl, rfl⟩
  exact ⟨rfl, rfl, HB0.out.drew⟩

end Go.Proofs.YtaibngnabhmabajGreatDoor
