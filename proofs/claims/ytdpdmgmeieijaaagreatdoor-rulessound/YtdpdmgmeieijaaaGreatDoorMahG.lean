/- Package machine: move. -/
import Derived.Test.YtdpdmgmeieijaaaGreatDoorSndAG
namespace Go.Proofs.YtdpdmgmeieijaaaGreatDoor
open Go.RowKit Go.Maps

/-- the registers behind an instruction -/
def mvg (p : Nat) (op ia ib : Int) (n : Rg) (s0 s1 s2 : Int) : Rg :=
  if op = 8 then ⟨ia % (p : Int), n.fp, n.ap, n.rv⟩
  else if op = 9 then (if s0 = 0 then ⟨ib % (p : Int), n.fp, n.ap, n.rv⟩ else ⟨(n.pc + 1) % (p : Int), n.fp, n.ap, n.rv⟩)
  else if op = 10 then ⟨ia % (p : Int), (n.ap + 2) % (p : Int), ((n.ap + 2) % (p : Int) + ib) % (p : Int), n.rv⟩
  else if op = 11 then ⟨s1, s0, n.ap, s2⟩
  else ⟨(n.pc + 1) % (p : Int), n.fp, n.ap, n.rv⟩
/-- what stands in move -/
structure MvP (p R b B : Nat) (aL : Option Addr) (nL cL C : Nat) (op ia ib ic s0 s1 s2 : Int) (n : Rg) (w W : World) : Prop where
  rn : RnAt W R b B aL nL cL n
  hp : W.cell? ⟨b, 0, none⟩ = some (.int .i64 p)
  i : W.heap[C]? = some (.cells #[.int .i64 op, .int .i64 ia, .int .i64 ib, .int .i64 ic] 45 (0, 0))
  r : W.heap[C + 1]? = some (.cells #[.int .i64 s0, .int .i64 s1, .int .i64 s2] 64 (0, 0))
  gr : w.grownBy W (some R)
  ne : b ≠ R
theorem MvP.drew {p R b B : Nat} {aL : Option Addr} {nL cL C : Nat} {op ia ib ic s0 s1 s2 : Int} {n : Rg} {w W : World} (h : MvP p R b B aL nL cL C op ia ib ic s0 s1 s2 n w W) : MvP p R b B aL nL cL C op ia ib ic s0 s1 s2 n w W.drew :=
  ⟨h.rn, h.hp, h.i, h.r, ⟨h.gr.os, h.gr.tape, h.gr.output, h.gr.size, h.gr.block⟩, h.ne⟩
theorem MvP.put {p R b B : Nat} {aL : Option Addr} {nL cL C : Nat} {op ia ib ic s0 s1 s2 : Int} {n n' : Rg} {w W : World} (h : MvP p R b B aL nL cL C op ia ib ic s0 s1 s2 n w W) (k : Nat) (v : Int) (hn : ∀ i, i < 7 → (if i = k then Value.int .i64 v else rnv b B aL nL cL n i) = rnv b B aL nL cL n' i) : MvP p R b B aL nL cL C op ia ib ic s0 s1 s2 n' w (W.setCell ⟨R, k, none⟩ (.int .i64 v)) := by
  have hoth : ∀ j, j ≠ R → (W.setCell ⟨R, k, none⟩ (.int .i64 v)).heap[j]? = W.heap[j]? := fun j hj => Below.heap_setCell _ _ _ _ hj
  have hr' := h.rn
  obtain ⟨c, hc, _⟩ := hr'
  have hne : ∀ {j : Nat} {c' : Array Value} {t' : TypeId} {f' : Nat × Nat}, W.heap[j]? = some (.cells c' t' f') → t' ≠ 94 → j ≠ R := fun {j c' t' f'} hj ht => by
    rintro rfl
    rw [hc] at hj
    injection hj with hj
    injection hj with _ h2 _
    exact ht h2.symm
  refine ⟨(h.rn.set k (.int .i64 v)).congr (fun i hi => hn i hi), (World.cell?_of_block (w := W) (a := ⟨b, 0, none⟩) (hoth b h.ne)).trans h.hp, (hoth _ (hne h.i (by decide))).trans h.i, (hoth _ (hne h.r (by decide))).trans h.r, ⟨h.gr.os, h.gr.tape, h.gr.output, by simpa [World.setCell] using h.gr.size, fun j hj hn' => (hoth j (fun e => hn' (by rw [e]))).trans (h.gr.block j hj hn')⟩, h.ne⟩
theorem mvP_of (p R b B : Nat) (aL : Option Addr) (nL cL : Nat) (op ia ib ic s0 s1 s2 : Int) (n : Rg) (w : World) (hR : RnAt w R b B aL nL cL n) (hp : w.cell? ⟨b, 0, none⟩ = some (.int .i64 p)) (hne : b ≠ R) : MvP p R b B aL nL cL w.heap.size op ia ib ic s0 s1 s2 n w ((w.alloc (.cells #[.int .i64 op, .int .i64 ia, .int .i64 ib, .int .i64 ic] 45)).alloc (.cells #[.int .i64 s0, .int .i64 s1, .int .i64 s2] 64)) := by
  obtain ⟨V, hV⟩ : ∃ V, V = w.alloc (.cells #[.int .i64 op, .int .i64 ia, .int .i64 ib, .int .i64 ic] 45) := ⟨_, rfl⟩
  have b1 : Below w.heap.size w V := by rw [hV]; exact (Below.refl _ _).alloc (Nat.le_refl _) _
  have hs : V.heap.size = w.heap.size + 1 := by rw [hV]; simp
  have hi : V.heap[w.heap.size]? = some (.cells #[.int .i64 op, .int .i64 ia, .int .i64 ib, .int .i64 ic] 45 (0, 0)) := by rw [hV]; exact heap_alloc_new w _
  rw [← hV]
  have b2 : Below V.heap.size V (V.alloc (.cells #[.int .i64 s0, .int .i64 s1, .int .i64 s2] 64)) := (Below.refl _ _).alloc (Nat.le_refl _) _
  have hbl := b1.trans (b2.mono b1.size)
  exact ⟨hR.of_block (hbl.block _ hR.lt), (hbl.cell (p := ⟨b, 0, none⟩) (World.block_lt_of_cell? _ _ hp)).trans hp, (b2.block w.heap.size (by omega)).trans hi, by rw [← hs]; exact heap_alloc_new V _, grB hbl, hne⟩
theorem seven {i : Nat} (h : i < 7) : i = 0 ∨ i = 1 ∨ i = 2 ∨ i = 3 ∨ i = 4 ∨ i = 5 ∨ i = 6 := by omega
/-- how move ends -/
def MvR (R b B : Nat) (aL : Option Addr) (nL cL : Nat) (n' : Rg) (w : World) (e : Ending) (w' : World) : Prop := e = .returned (.tuple #[]) ∧ RnAt w' R b B aL nL cL n' ∧ w.grownBy w' (some R)


set_option maxRecDepth 100000 in
set_option maxHeartbeats 2000000 in
theorem pmove_x (p R b B : Nat) (aL : Option Addr) (nL cL : Nat) (op ia ib ic s0 s1 s2 : Int) (n : Rg) (w : World) (h3 : 3 ≤ p) (h4 : p ≤ 2147483647) (hR : RnAt w R b B aL nL cL n) (hp : w.cell? ⟨b, 0, none⟩ = some (.int .i64 p)) (hne : b ≠ R) (hn : I64 n.pc ∧ I64 n.ap) (hi : I64 ia ∧ I64 ib) (hno : op ≠ 8 ∧ op ≠ 9 ∧ op ≠ 10 ∧ op ≠ 11) :
    Calls Tryz.prog 80 #[.pointer (some ⟨R, 0, none⟩), .agg #[.int .i64 op, .int .i64 ia, .int .i64 ib, .int .i64 ic], .agg #[.int .i64 s0, .int .i64 s1, .int .i64 s2]] w (MvR R b B aL nL cL (mvg p op ia ib n s0 s1 s2) w) := by
  have hmx : Tryz.prog.follows .mixedOrders = true := by kernel_rfl
  have HI := hid hi
  have HM0 := hid (mvP_of p R b B aL nL cL op ia ib ic s0 s1 s2 n w hR hp hne)
  obtain ⟨W0, hW0⟩ : ∃ W0, W0 = (w.alloc (.cells #[.int .i64 op, .int .i64 ia, .int .i64 ib, .int .i64 ic] 45)).alloc (.cells #[.int .i64 s0, .int .i64 s1, .int .i64 s2] 64) := ⟨_, rfl⟩
  rw [← hW0] at HM0
  have HA1 : Hid (∀ W : World, W.cell? ⟨b, 0, none⟩ = some (.int .i64 p) → Calls Tryz.prog 52 #[.pointer (some ⟨b, 0, none⟩), .int .i64 n.pc, .int .i64 1] W fun e w' => e = .returned (.int .i64 ((n.pc + 1) % (p : Int))) ∧ w' = W) := fun W h => add_any p b _ _ W h3 h4 h hn.1.1 hn.1.2 (by decide) (by decide)
  have q8 : (op == 8) = false := by rw [beq_eq_false_iff_ne]; omega
  have q9 : (op == 9) = false := by rw [beq_eq_false_iff_ne]; omega
  have q10 : (op == 10) = false := by rw [beq_eq_false_iff_ne]; omega
  have q11 : (op == 11) = false := by rw [beq_eq_false_iff_ne]; omega
  obtain ⟨C, hC⟩ : ∃ C, C = w.heap.size := ⟨_, rfl⟩
  rw [← hC] at HM0
  have c0 : W0.cell? ⟨R, 0, none⟩ = some (.pointer (some ⟨b, 0, none⟩)) := HM0.out.rn.cell (i := 0) (by decide)
  have c3 := HM0.out.rn.cell (i := 3) (by decide)
  simp only [rnv] at c3
  have c4 := HM0.out.rn.cell (i := 4) (by decide)
  simp only [rnv] at c4
  have c5 := HM0.out.rn.cell (i := 5) (by decide)
  simp only [rnv] at c5
  have c6 := HM0.out.rn.cell (i := 6) (by decide)
  simp only [rnv] at c6
  have cf := HM0.out.rn.frozen
  have cp := HM0.out.hp
  have ci0 : W0.cell? ⟨C, 0, none⟩ = some (.int .i64 op) := by simp [World.cell?, HM0.out.i]
  have ci1 : W0.cell? ⟨C, 1, none⟩ = some (.int .i64 ia) := by simp [World.cell?, HM0.out.i]
  have ci2 : W0.cell? ⟨C, 2, none⟩ = some (.int .i64 ib) := by simp [World.cell?, HM0.out.i]
  have ci3 : W0.cell? ⟨C, 3, none⟩ = some (.int .i64 ic) := by simp [World.cell?, HM0.out.i]
  have cs0 : W0.cell? ⟨C + 1, 0, none⟩ = some (.int .i64 s0) := by simp [World.cell?, HM0.out.r]
  have cs1 : W0.cell? ⟨C + 1, 1, none⟩ = some (.int .i64 s1) := by simp [World.cell?, HM0.out.r]
  have cs2 : W0.cell? ⟨C + 1, 2, none⟩ = some (.int .i64 s2) := by simp [World.cell?, HM0.out.r]
  clear hR hp hne hn hi h3 h4
  go_enter Tryz.func80, Tryz.ntmps80
  go_wp2_with fail
  rw [← hW0, ← hC]
  clear hW0 hC
  refine wp_region_still_tail 9 hmx (by kernel_rfl) ?_
  simp only [List.take_succ_cons, List.take_zero, List.drop_succ_cons, List.drop_zero]
  repeat still_step
  still_call (HA1.out _ cp)
  repeat still_step
  refine wpStill_nil ?_
  go_wp2_with fail
  have HF : Hid (MvP p R b B aL nL cL C op ia ib ic s0 s1 s2 (mvg p op ia ib n s0 s1 s2) w (W0.drew.setCell ⟨R, 3, none⟩ (.int .i64 ((n.pc + 1) % (p : Int))))) := (HM0.out.drew).put 3 _ (fun i hi => by rcases seven hi with rfl | rfl | rfl | rfl | rfl | rfl | rfl <;> simp [rnv, mvg, hno])
  go_end0
  exact ⟨rfl, HF.out.rn, HF.out.gr⟩


set_option maxRecDepth 100000 in
set_option maxHeartbeats 2000000 in
theorem pmove_8 (p R b B : Nat) (aL : Option Addr) (nL cL : Nat) (ia ib ic s0 s1 s2 : Int) (n : Rg) (w : World) (h3 : 3 ≤ p) (h4 : p ≤ 2147483647) (hR : RnAt w R b B aL nL cL n) (hp : w.cell? ⟨b, 0, none⟩ = some (.int .i64 p)) (hne : b ≠ R) (hn : I64 n.pc ∧ I64 n.ap) (hi : I64 ia ∧ I64 ib) :
    Calls Tryz.prog 80 #[.pointer (some ⟨R, 0, none⟩), .agg #[.int .i64 8, .int .i64 ia, .int .i64 ib, .int .i64 ic], .agg #[.int .i64 s0, .int .i64 s1, .int .i64 s2]] w (MvR R b B aL nL cL (mvg p 8 ia ib n s0 s1 s2) w) := by
  have hmx : Tryz.prog.follows .mixedOrders = true := by kernel_rfl
  have HI := hid hi
  have HM0 := hid (mvP_of p R b B aL nL cL 8 ia ib ic s0 s1 s2 n w hR hp hne)
  obtain ⟨W0, hW0⟩ : ∃ W0, W0 = (w.alloc (.cells #[.int .i64 8, .int .i64 ia, .int .i64 ib, .int .i64 ic] 45)).alloc (.cells #[.int .i64 s0, .int .i64 s1, .int .i64 s2] 64) := ⟨_, rfl⟩
  rw [← hW0] at HM0
  have HA1 : Hid (∀ W : World, W.cell? ⟨b, 0, none⟩ = some (.int .i64 p) → Calls Tryz.prog 52 #[.pointer (some ⟨b, 0, none⟩), .int .i64 n.pc, .int .i64 1] W fun e w' => e = .returned (.int .i64 ((n.pc + 1) % (p : Int))) ∧ w' = W) := fun W h => add_any p b _ _ W h3 h4 h hn.1.1 hn.1.2 (by decide) (by decide)
  have HO : Hid (∀ W : World, W.cell? ⟨b, 0, none⟩ = some (.int .i64 p) → Calls Tryz.prog 33 #[.pointer (some ⟨b, 0, none⟩), .int .i64 ia] W fun e w' => e = .returned (.int .i64 (ia % (p : Int))) ∧ w' = W) := fun W h => of_any p b _ W h3 h4 h hi.1.1 hi.1.2
  obtain ⟨C, hC⟩ : ∃ C, C = w.heap.size := ⟨_, rfl⟩
  rw [← hC] at HM0
  have c0 : W0.cell? ⟨R, 0, none⟩ = some (.pointer (some ⟨b, 0, none⟩)) := HM0.out.rn.cell (i := 0) (by decide)
  have c3 := HM0.out.rn.cell (i := 3) (by decide)
  simp only [rnv] at c3
  have c4 := HM0.out.rn.cell (i := 4) (by decide)
  simp only [rnv] at c4
  have c5 := HM0.out.rn.cell (i := 5) (by decide)
  simp only [rnv] at c5
  have c6 := HM0.out.rn.cell (i := 6) (by decide)
  simp only [rnv] at c6
  have cf := HM0.out.rn.frozen
  have cp := HM0.out.hp
  have ci0 : W0.cell? ⟨C, 0, none⟩ = some (.int .i64 8) := by simp [World.cell?, HM0.out.i]
  have ci1 : W0.cell? ⟨C, 1, none⟩ = some (.int .i64 ia) := by simp [World.cell?, HM0.out.i]
  have ci2 : W0.cell? ⟨C, 2, none⟩ = some (.int .i64 ib) := by simp [World.cell?, HM0.out.i]
  have ci3 : W0.cell? ⟨C, 3, none⟩ = some (.int .i64 ic) := by simp [World.cell?, HM0.out.i]
  have cs0 : W0.cell? ⟨C + 1, 0, none⟩ = some (.int .i64 s0) := by simp [World.cell?, HM0.out.r]
  have cs1 : W0.cell? ⟨C + 1, 1, none⟩ = some (.int .i64 s1) := by simp [World.cell?, HM0.out.r]
  have cs2 : W0.cell? ⟨C + 1, 2, none⟩ = some (.int .i64 s2) := by simp [World.cell?, HM0.out.r]
  clear hR hp hne hn hi h3 h4
  go_enter Tryz.func80, Tryz.ntmps80
  go_wp2_with fail
  rw [← hW0, ← hC]
  clear hW0 hC
  refine wp_region_still_tail 9 hmx (by kernel_rfl) ?_
  simp only [List.take_succ_cons, List.take_zero, List.drop_succ_cons, List.drop_zero]
  repeat still_step
  still_call (HA1.out _ cp)
  repeat still_step
  refine wpStill_nil ?_
  go_wp2_with fail
  have HM1 := hid (HM0.out.drew)
  obtain ⟨w1, hww1⟩ : ∃ v, v = W0.drew := ⟨_, rfl⟩
  rw [← hww1] at HM1
  have hwx : ({ heap := W0.heap, tape := W0.tape, drawn := W0.drawn + 1, os := W0.os, output := W0.output } : World) = w1 := hww1.symm
  first | rw [← hww1] | rw [hwx]
  clear hwx
  clear c0 c3 c4 c5 c6 cf cp ci0 ci1 ci2 ci3 cs0 cs1 cs2
  clear HM0
  have d0 : w1.cell? ⟨R, 0, none⟩ = some (.pointer (some ⟨b, 0, none⟩)) := HM1.out.rn.cell (i := 0) (by decide)
  have d3 := HM1.out.rn.cell (i := 3) (by decide)
  simp only [rnv] at d3
  have d4 := HM1.out.rn.cell (i := 4) (by decide)
  simp only [rnv] at d4
  have d5 := HM1.out.rn.cell (i := 5) (by decide)
  simp only [rnv] at d5
  have d6 := HM1.out.rn.cell (i := 6) (by decide)
  simp only [rnv] at d6
  have df := HM1.out.rn.frozen
  have dp := HM1.out.hp
  have di0 : w1.cell? ⟨C, 0, none⟩ = some (.int .i64 8) := by simp [World.cell?, HM1.out.i]
  have di1 : w1.cell? ⟨C, 1, none⟩ = some (.int .i64 ia) := by simp [World.cell?, HM1.out.i]
  have di2 : w1.cell? ⟨C, 2, none⟩ = some (.int .i64 ib) := by simp [World.cell?, HM1.out.i]
  have di3 : w1.cell? ⟨C, 3, none⟩ = some (.int .i64 ic) := by simp [World.cell?, HM1.out.i]
  have ds0 : w1.cell? ⟨C + 1, 0, none⟩ = some (.int .i64 s0) := by simp [World.cell?, HM1.out.r]
  have ds1 : w1.cell? ⟨C + 1, 1, none⟩ = some (.int .i64 s1) := by simp [World.cell?, HM1.out.r]
  have ds2 : w1.cell? ⟨C + 1, 2, none⟩ = some (.int .i64 s2) := by simp [World.cell?, HM1.out.r]
  clear hww1
  refine wp_region_still_tail 7 hmx (by kernel_rfl) ?_
  simp only [List.take_succ_cons, List.take_zero, List.drop_succ_cons, List.drop_zero]
  repeat still_step
  still_call (HO.out _ dp)
  repeat still_step
  refine wpStill_nil ?_
  go_wp2_with fail
  have HF : Hid (MvP p R b B aL nL cL C 8 ia ib ic s0 s1 s2 (mvg p 8 ia ib n s0 s1 s2) w (w1.drew.setCell ⟨R, 3, none⟩ (.int .i64 (ia % (p : Int))))) := (HM1.out.drew).put 3 _ (fun i hi => by rcases seven hi with rfl | rfl | rfl | rfl | rfl | rfl | rfl <;> simp [rnv, mvg])
  go_end0
  exact ⟨rfl, HF.out.rn, HF.out.gr⟩


set_option maxRecDepth 100000 in
set_option maxHeartbeats 2000000 in
theorem pmove_9y (p R b B : Nat) (aL : Option Addr) (nL cL : Nat) (ia ib ic s0 s1 s2 : Int) (n : Rg) (w : World) (h3 : 3 ≤ p) (h4 : p ≤ 2147483647) (hR : RnAt w R b B aL nL cL n) (hp : w.cell? ⟨b, 0, none⟩ = some (.int .i64 p)) (hne : b ≠ R) (hn : I64 n.pc ∧ I64 n.ap) (hi : I64 ia ∧ I64 ib) (hs : s0 = 0) :
    Calls Tryz.prog 80 #[.pointer (some ⟨R, 0, none⟩), .agg #[.int .i64 9, .int .i64 ia, .int .i64 ib, .int .i64 ic], .agg #[.int .i64 s0, .int .i64 s1, .int .i64 s2]] w (MvR R b B aL nL cL (mvg p 9 ia ib n s0 s1 s2) w) := by
  have hmx : Tryz.prog.follows .mixedOrders = true := by kernel_rfl
  have HI := hid hi
  have HM0 := hid (mvP_of p R b B aL nL cL 9 ia ib ic s0 s1 s2 n w hR hp hne)
  obtain ⟨W0, hW0⟩ : ∃ W0, W0 = (w.alloc (.cells #[.int .i64 9, .int .i64 ia, .int .i64 ib, .int .i64 ic] 45)).alloc (.cells #[.int .i64 s0, .int .i64 s1, .int .i64 s2] 64) := ⟨_, rfl⟩
  rw [← hW0] at HM0
  have HA1 : Hid (∀ W : World, W.cell? ⟨b, 0, none⟩ = some (.int .i64 p) → Calls Tryz.prog 52 #[.pointer (some ⟨b, 0, none⟩), .int .i64 n.pc, .int .i64 1] W fun e w' => e = .returned (.int .i64 ((n.pc + 1) % (p : Int))) ∧ w' = W) := fun W h => add_any p b _ _ W h3 h4 h hn.1.1 hn.1.2 (by decide) (by decide)
  have HO : Hid (∀ W : World, W.cell? ⟨b, 0, none⟩ = some (.int .i64 p) → Calls Tryz.prog 33 #[.pointer (some ⟨b, 0, none⟩), .int .i64 ib] W fun e w' => e = .returned (.int .i64 (ib % (p : Int))) ∧ w' = W) := fun W h => of_any p b _ W h3 h4 h hi.2.1 hi.2.2
  have hq : (s0 == 0) = true := by simp [hs]
  have HS := hid hs
  clear hs
  obtain ⟨C, hC⟩ : ∃ C, C = w.heap.size := ⟨_, rfl⟩
  rw [← hC] at HM0
  have c0 : W0.cell? ⟨R, 0, none⟩ = some (.pointer (some ⟨b, 0, none⟩)) := HM0.out.rn.cell (i := 0) (by decide)
  have c3 := HM0.out.rn.cell (i := 3) (by decide)
  simp only [rnv] at c3
  have c4 := HM0.out.rn.cell (i := 4) (by decide)
  simp only [rnv] at c4
  have c5 := HM0.out.rn.cell (i := 5) (by decide)
  simp only [rnv] at c5
  have c6 := HM0.out.rn.cell (i := 6) (by decide)
  simp only [rnv] at c6
  have cf := HM0.out.rn.frozen
  have cp := HM0.out.hp
  have ci0 : W0.cell? ⟨C, 0, none⟩ = some (.int .i64 9) := by simp [World.cell?, HM0.out.i]
  have ci1 : W0.cell? ⟨C, 1, none⟩ = some (.int .i64 ia) := by simp [World.cell?, HM0.out.i]
  have ci2 : W0.cell? ⟨C, 2, none⟩ = some (.int .i64 ib) := by simp [World.cell?, HM0.out.i]
  have ci3 : W0.cell? ⟨C, 3, none⟩ = some (.int .i64 ic) := by simp [World.cell?, HM0.out.i]
  have cs0 : W0.cell? ⟨C + 1, 0, none⟩ = some (.int .i64 s0) := by simp [World.cell?, HM0.out.r]
  have cs1 : W0.cell? ⟨C + 1, 1, none⟩ = some (.int .i64 s1) := by simp [World.cell?, HM0.out.r]
  have cs2 : W0.cell? ⟨C + 1, 2, none⟩ = some (.int .i64 s2) := by simp [World.cell?, HM0.out.r]
  clear hR hp hne hn hi h3 h4
  go_enter Tryz.func80, Tryz.ntmps80
  go_wp2_with fail
  rw [← hW0, ← hC]
  clear hW0 hC
  refine wp_region_still_tail 9 hmx (by kernel_rfl) ?_
  simp only [List.take_succ_cons, List.take_zero, List.drop_succ_cons, List.drop_zero]
  repeat still_step
  still_call (HA1.out _ cp)
  repeat still_step
  refine wpStill_nil ?_
  go_wp2_with fail
  have HM1 := hid (HM0.out.drew)
  obtain ⟨w1, hww1⟩ : ∃ v, v = W0.drew := ⟨_, rfl⟩
  rw [← hww1] at HM1
  have hwx : ({ heap := W0.heap, tape := W0.tape, drawn := W0.drawn + 1, os := W0.os, output := W0.output } : World) = w1 := hww1.symm
  first | rw [← hww1] | rw [hwx]
  clear hwx
  clear c0 c3 c4 c5 c6 cf cp ci0 ci1 ci2 ci3 cs0 cs1 cs2
  clear HM0
  have d0 : w1.cell? ⟨R, 0, none⟩ = some (.pointer (some ⟨b, 0, none⟩)) := HM1.out.rn.cell (i := 0) (by decide)
  have d3 := HM1.out.rn.cell (i := 3) (by decide)
  simp only [rnv] at d3
  have d4 := HM1.out.rn.cell (i := 4) (by decide)
  simp only [rnv] at d4
  have d5 := HM1.out.rn.cell (i := 5) (by decide)
  simp only [rnv] at d5
  have d6 := HM1.out.rn.cell (i := 6) (by decide)
  simp only [rnv] at d6
  have df := HM1.out.rn.frozen
  have dp := HM1.out.hp
  have di0 : w1.cell? ⟨C, 0, none⟩ = some (.int .i64 9) := by simp [World.cell?, HM1.out.i]
  have di1 : w1.cell? ⟨C, 1, none⟩ = some (.int .i64 ia) := by simp [World.cell?, HM1.out.i]
  have di2 : w1.cell? ⟨C, 2, none⟩ = some (.int .i64 ib) := by simp [World.cell?, HM1.out.i]
  have di3 : w1.cell? ⟨C, 3, none⟩ = some (.int .i64 ic) := by simp [World.cell?, HM1.out.i]
  have ds0 : w1.cell? ⟨C + 1, 0, none⟩ = some (.int .i64 s0) := by simp [World.cell?, HM1.out.r]
  have ds1 : w1.cell? ⟨C + 1, 1, none⟩ = some (.int .i64 s1) := by simp [World.cell?, HM1.out.r]
  have ds2 : w1.cell? ⟨C + 1, 2, none⟩ = some (.int .i64 s2) := by simp [World.cell?, HM1.out.r]
  clear hww1
  refine wp_region_still_tail 7 hmx (by kernel_rfl) ?_
  simp only [List.take_succ_cons, List.take_zero, List.drop_succ_cons, List.drop_zero]
  repeat still_step
  still_call (HO.out _ dp)
  repeat still_step
  refine wpStill_nil ?_
  go_wp2_with fail
  have HF : Hid (MvP p R b B aL nL cL C 9 ia ib ic s0 s1 s2 (mvg p 9 ia ib n s0 s1 s2) w (w1.drew.setCell ⟨R, 3, none⟩ (.int .i64 (ib % (p : Int))))) := (HM1.out.drew).put 3 _ (fun i hi => by rcases seven hi with rfl | rfl | rfl | rfl | rfl | rfl | rfl <;> simp [rnv, mvg, HS.out])
  go_end0
  exact ⟨rfl, HF.out.rn, HF.out.gr⟩


set_option maxRecDepth 100000 in
set_option maxHeartbeats 2000000 in
theorem pmove_9n (p R b B : Nat) (aL : Option Addr) (nL cL : Nat) (ia ib ic s0 s1 s2 : Int) (n : Rg) (w : World) (h3 : 3 ≤ p) (h4 : p ≤ 2147483647) (hR : RnAt w R b B aL nL cL n) (hp : w.cell? ⟨b, 0, none⟩ = some (.int .i64 p)) (hne : b ≠ R) (hn : I64 n.pc ∧ I64 n.ap) (hi : I64 ia ∧ I64 ib) (hs : s0 ≠ 0) :
    Calls Tryz.prog 80 #[.pointer (some ⟨R, 0, none⟩), .agg #[.int .i64 9, .int .i64 ia, .int .i64 ib, .int .i64 ic], .agg #[.int .i64 s0, .int .i64 s1, .int .i64 s2]] w (MvR R b B aL nL cL (mvg p 9 ia ib n s0 s1 s2) w) := by
  have hmx : Tryz.prog.follows .mixedOrders = true := by kernel_rfl
  have HI := hid hi
  have HM0 := hid (mvP_of p R b B aL nL cL 9 ia ib ic s0 s1 s2 n w hR hp hne)
  obtain ⟨W0, hW0⟩ : ∃ W0, W0 = (w.alloc (.cells #[.int .i64 9, .int .i64 ia, .int .i64 ib, .int .i64 ic] 45)).alloc (.cells #[.int .i64 s0, .int .i64 s1, .int .i64 s2] 64) := ⟨_, rfl⟩
  rw [← hW0] at HM0
  have HA1 : Hid (∀ W : World, W.cell? ⟨b, 0, none⟩ = some (.int .i64 p) → Calls Tryz.prog 52 #[.pointer (some ⟨b, 0, none⟩), .int .i64 n.pc, .int .i64 1] W fun e w' => e = .returned (.int .i64 ((n.pc + 1) % (p : Int))) ∧ w' = W) := fun W h => add_any p b _ _ W h3 h4 h hn.1.1 hn.1.2 (by decide) (by decide)
  have hq : (s0 == 0) = false := by simp [hs]
  obtain ⟨C, hC⟩ : ∃ C, C = w.heap.size := ⟨_, rfl⟩
  rw [← hC] at HM0
  have c0 : W0.cell? ⟨R, 0, none⟩ = some (.pointer (some ⟨b, 0, none⟩)) := HM0.out.rn.cell (i := 0) (by decide)
  have c3 := HM0.out.rn.cell (i := 3) (by decide)
  simp only [rnv] at c3
  have c4 := HM0.out.rn.cell (i := 4) (by decide)
  simp only [rnv] at c4
  have c5 := HM0.out.rn.cell (i := 5) (by decide)
  simp only [rnv] at c5
  have c6 := HM0.out.rn.cell (i := 6) (by decide)
  simp only [rnv] at c6
  have cf := HM0.out.rn.frozen
  have cp := HM0.out.hp
  have ci0 : W0.cell? ⟨C, 0, none⟩ = some (.int .i64 9) := by simp [World.cell?, HM0.out.i]
  have ci1 : W0.cell? ⟨C, 1, none⟩ = some (.int .i64 ia) := by simp [World.cell?, HM0.out.i]
  have ci2 : W0.cell? ⟨C, 2, none⟩ = some (.int .i64 ib) := by simp [World.cell?, HM0.out.i]
  have ci3 : W0.cell? ⟨C, 3, none⟩ = some (.int .i64 ic) := by simp [World.cell?, HM0.out.i]
  have cs0 : W0.cell? ⟨C + 1, 0, none⟩ = some (.int .i64 s0) := by simp [World.cell?, HM0.out.r]
  have cs1 : W0.cell? ⟨C + 1, 1, none⟩ = some (.int .i64 s1) := by simp [World.cell?, HM0.out.r]
  have cs2 : W0.cell? ⟨C + 1, 2, none⟩ = some (.int .i64 s2) := by simp [World.cell?, HM0.out.r]
  clear hR hp hne hn hi h3 h4
  go_enter Tryz.func80, Tryz.ntmps80
  go_wp2_with fail
  rw [← hW0, ← hC]
  clear hW0 hC
  refine wp_region_still_tail 9 hmx (by kernel_rfl) ?_
  simp only [List.take_succ_cons, List.take_zero, List.drop_succ_cons, List.drop_zero]
  repeat still_step
  still_call (HA1.out _ cp)
  repeat still_step
  refine wpStill_nil ?_
  go_wp2_with fail
  have HF : Hid (MvP p R b B aL nL cL C 9 ia ib ic s0 s1 s2 (mvg p 9 ia ib n s0 s1 s2) w (W0.drew.setCell ⟨R, 3, none⟩ (.int .i64 ((n.pc + 1) % (p : Int))))) := (HM0.out.drew).put 3 _ (fun i hi => by rcases seven hi with rfl | rfl | rfl | rfl | rfl | rfl | rfl <;> simp [rnv, mvg, hs])
  go_end0
  exact ⟨rfl, HF.out.rn, HF.out.gr⟩


set_option maxRecDepth 100000 in
set_option maxHeartbeats 2000000 in
theorem pmove_10 (p R b B : Nat) (aL : Option Addr) (nL cL : Nat) (ia ib ic s0 s1 s2 : Int) (n : Rg) (w : World) (h3 : 3 ≤ p) (h4 : p ≤ 2147483647) (hR : RnAt w R b B aL nL cL n) (hp : w.cell? ⟨b, 0, none⟩ = some (.int .i64 p)) (hne : b ≠ R) (hn : I64 n.pc ∧ I64 n.ap) (hi : I64 ia ∧ I64 ib) :
    Calls Tryz.prog 80 #[.pointer (some ⟨R, 0, none⟩), .agg #[.int .i64 10, .int .i64 ia, .int .i64 ib, .int .i64 ic], .agg #[.int .i64 s0, .int .i64 s1, .int .i64 s2]] w (MvR R b B aL nL cL (mvg p 10 ia ib n s0 s1 s2) w) := by
  have hmx : Tryz.prog.follows .mixedOrders = true := by kernel_rfl
  have HI := hid hi
  have HM0 := hid (mvP_of p R b B aL nL cL 10 ia ib ic s0 s1 s2 n w hR hp hne)
  obtain ⟨W0, hW0⟩ : ∃ W0, W0 = (w.alloc (.cells #[.int .i64 10, .int .i64 ia, .int .i64 ib, .int .i64 ic] 45)).alloc (.cells #[.int .i64 s0, .int .i64 s1, .int .i64 s2] 64) := ⟨_, rfl⟩
  rw [← hW0] at HM0
  have HA1 : Hid (∀ W : World, W.cell? ⟨b, 0, none⟩ = some (.int .i64 p) → Calls Tryz.prog 52 #[.pointer (some ⟨b, 0, none⟩), .int .i64 n.pc, .int .i64 1] W fun e w' => e = .returned (.int .i64 ((n.pc + 1) % (p : Int))) ∧ w' = W) := fun W h => add_any p b _ _ W h3 h4 h hn.1.1 hn.1.2 (by decide) (by decide)
  have HO : Hid (∀ W : World, W.cell? ⟨b, 0, none⟩ = some (.int .i64 p) → Calls Tryz.prog 33 #[.pointer (some ⟨b, 0, none⟩), .int .i64 ia] W fun e w' => e = .returned (.int .i64 (ia % (p : Int))) ∧ w' = W) := fun W h => of_any p b _ W h3 h4 h hi.1.1 hi.1.2
  obtain ⟨z, hz⟩ : ∃ z, z = (n.ap + 2) % (p : Int) := ⟨_, rfl⟩
  have hzb : I64 z := by rw [hz]; have := emod_bounds (n.ap + 2) p h3; exact ⟨by omega, by omega⟩
  have HA2 : Hid (∀ W : World, W.cell? ⟨b, 0, none⟩ = some (.int .i64 p) → Calls Tryz.prog 52 #[.pointer (some ⟨b, 0, none⟩), .int .i64 n.ap, .int .i64 2] W fun e w' => e = .returned (.int .i64 z) ∧ w' = W) := fun W h => by rw [hz]; exact add_any p b _ _ W h3 h4 h hn.2.1 hn.2.2 (by decide) (by decide)
  have HA3 : Hid (∀ W : World, W.cell? ⟨b, 0, none⟩ = some (.int .i64 p) → Calls Tryz.prog 52 #[.pointer (some ⟨b, 0, none⟩), .int .i64 z, .int .i64 ib] W fun e w' => e = .returned (.int .i64 ((z + ib) % (p : Int))) ∧ w' = W) := fun W h => add_any p b _ _ W h3 h4 h hzb.1 hzb.2 hi.2.1 hi.2.2
  have HZ := hid hz
  clear hz hzb
  obtain ⟨C, hC⟩ : ∃ C, C = w.heap.size := ⟨_, rfl⟩
  rw [← hC] at HM0
  have c0 : W0.cell? ⟨R, 0, none⟩ = some (.pointer (some ⟨b, 0, none⟩)) := HM0.out.rn.cell (i := 0) (by decide)
  have c3 := HM0.out.rn.cell (i := 3) (by decide)
  simp only [rnv] at c3
  have c4 := HM0.out.rn.cell (i := 4) (by decide)
  simp only [rnv] at c4
  have c5 := HM0.out.rn.cell (i := 5) (by decide)
  simp only [rnv] at c5
  have c6 := HM0.out.rn.cell (i := 6) (by decide)
  simp only [rnv] at c6
  have cf := HM0.out.rn.frozen
  have cp := HM0.out.hp
  have ci0 : W0.cell? ⟨C, 0, none⟩ = some (.int .i64 10) := by simp [World.cell?, HM0.out.i]
  have ci1 : W0.cell? ⟨C, 1, none⟩ = some (.int .i64 ia) := by simp [World.cell?, HM0.out.i]
  have ci2 : W0.cell? ⟨C, 2, none⟩ = some (.int .i64 ib) := by simp [World.cell?, HM0.out.i]
  have ci3 : W0.cell? ⟨C, 3, none⟩ = some (.int .i64 ic) := by simp [World.cell?, HM0.out.i]
  have cs0 : W0.cell? ⟨C + 1, 0, none⟩ = some (.int .i64 s0) := by simp [World.cell?, HM0.out.r]
  have cs1 : W0.cell? ⟨C + 1, 1, none⟩ = some (.int .i64 s1) := by simp [World.cell?, HM0.out.r]
  have cs2 : W0.cell? ⟨C + 1, 2, none⟩ = some (.int .i64 s2) := by simp [World.cell?, HM0.out.r]
  clear hR hp hne hn hi h3 h4
  go_enter Tryz.func80, Tryz.ntmps80
  go_wp2_with fail
  rw [← hW0, ← hC]
  clear hW0 hC
  refine wp_region_still_tail 9 hmx (by kernel_rfl) ?_
  simp only [List.take_succ_cons, List.take_zero, List.drop_succ_cons, List.drop_zero]
  repeat still_step
  still_call (HA1.out _ cp)
  repeat still_step
  refine wpStill_nil ?_
  go_wp2_with fail
  have HM1 := hid (HM0.out.drew)
  obtain ⟨w1, hww1⟩ : ∃ v, v = W0.drew := ⟨_, rfl⟩
  rw [← hww1] at HM1
  have hwx : ({ heap := W0.heap, tape := W0.tape, drawn := W0.drawn + 1, os := W0.os, output := W0.output } : World) = w1 := hww1.symm
  first | rw [← hww1] | rw [hwx]
  clear hwx
  clear c0 c3 c4 c5 c6 cf cp ci0 ci1 ci2 ci3 cs0 cs1 cs2
  clear HM0
  have d0 : w1.cell? ⟨R, 0, none⟩ = some (.pointer (some ⟨b, 0, none⟩)) := HM1.out.rn.cell (i := 0) (by decide)
  have d3 := HM1.out.rn.cell (i := 3) (by decide)
  simp only [rnv] at d3
  have d4 := HM1.out.rn.cell (i := 4) (by decide)
  simp only [rnv] at d4
  have d5 := HM1.out.rn.cell (i := 5) (by decide)
  simp only [rnv] at d5
  have d6 := HM1.out.rn.cell (i := 6) (by decide)
  simp only [rnv] at d6
  have df := HM1.out.rn.frozen
  have dp := HM1.out.hp
  have di0 : w1.cell? ⟨C, 0, none⟩ = some (.int .i64 10) := by simp [World.cell?, HM1.out.i]
  have di1 : w1.cell? ⟨C, 1, none⟩ = some (.int .i64 ia) := by simp [World.cell?, HM1.out.i]
  have di2 : w1.cell? ⟨C, 2, none⟩ = some (.int .i64 ib) := by simp [World.cell?, HM1.out.i]
  have di3 : w1.cell? ⟨C, 3, none⟩ = some (.int .i64 ic) := by simp [World.cell?, HM1.out.i]
  have ds0 : w1.cell? ⟨C + 1, 0, none⟩ = some (.int .i64 s0) := by simp [World.cell?, HM1.out.r]
  have ds1 : w1.cell? ⟨C + 1, 1, none⟩ = some (.int .i64 s1) := by simp [World.cell?, HM1.out.r]
  have ds2 : w1.cell? ⟨C + 1, 2, none⟩ = some (.int .i64 s2) := by simp [World.cell?, HM1.out.r]
  clear hww1
  refine wp_region_still_tail 7 hmx (by kernel_rfl) ?_
  simp only [List.take_succ_cons, List.take_zero, List.drop_succ_cons, List.drop_zero]
  repeat still_step
  still_call (HO.out _ dp)
  repeat still_step
  refine wpStill_nil ?_
  go_wp2_with fail
  have HM2 := hid (HM1.out.drew)
  obtain ⟨w2, hww2⟩ : ∃ v, v = w1.drew := ⟨_, rfl⟩
  rw [← hww2] at HM2
  have hwx : ({ heap := w1.heap, tape := w1.tape, drawn := w1.drawn + 1, os := w1.os, output := w1.output } : World) = w2 := hww2.symm
  first | rw [← hww2] | rw [hwx]
  clear hwx
  clear d0 d3 d4 d5 d6 df dp di0 di1 di2 di3 ds0 ds1 ds2
  clear HM1
  have e0 : w2.cell? ⟨R, 0, none⟩ = some (.pointer (some ⟨b, 0, none⟩)) := HM2.out.rn.cell (i := 0) (by decide)
  have e3 := HM2.out.rn.cell (i := 3) (by decide)
  simp only [rnv] at e3
  have e4 := HM2.out.rn.cell (i := 4) (by decide)
  simp only [rnv] at e4
  have e5 := HM2.out.rn.cell (i := 5) (by decide)
  simp only [rnv] at e5
  have e6 := HM2.out.rn.cell (i := 6) (by decide)
  simp only [rnv] at e6
  have ef := HM2.out.rn.frozen
  have ep := HM2.out.hp
  have ei0 : w2.cell? ⟨C, 0, none⟩ = some (.int .i64 10) := by simp [World.cell?, HM2.out.i]
  have ei1 : w2.cell? ⟨C, 1, none⟩ = some (.int .i64 ia) := by simp [World.cell?, HM2.out.i]
  have ei2 : w2.cell? ⟨C, 2, none⟩ = some (.int .i64 ib) := by simp [World.cell?, HM2.out.i]
  have ei3 : w2.cell? ⟨C, 3, none⟩ = some (.int .i64 ic) := by simp [World.cell?, HM2.out.i]
  have es0 : w2.cell? ⟨C + 1, 0, none⟩ = some (.int .i64 s0) := by simp [World.cell?, HM2.out.r]
  have es1 : w2.cell? ⟨C + 1, 1, none⟩ = some (.int .i64 s1) := by simp [World.cell?, HM2.out.r]
  have es2 : w2.cell? ⟨C + 1, 2, none⟩ = some (.int .i64 s2) := by simp [World.cell?, HM2.out.r]
  clear hww2
  refine wp_region_still_tail 12 hmx (by kernel_rfl) ?_
  simp only [List.take_succ_cons, List.take_zero, List.drop_succ_cons, List.drop_zero]
  repeat still_step
  still_call (HA2.out _ ep)
  repeat still_step
  refine wpStill_nil ?_
  go_wp2_with fail
  have HM3 := hid ((HM2.out.put (n' := ⟨n.pc, z, n.ap, n.rv⟩) 4 z (fun i hi => by rcases seven hi with rfl | rfl | rfl | rfl | rfl | rfl | rfl <;> simp [rnv])).drew)
  obtain ⟨w3, hww3⟩ : ∃ v, v = (w2.setCell ⟨R, 4, none⟩ (.int .i64 z)).drew := ⟨_, rfl⟩
  rw [← hww3] at HM3
  have hwx : ({ heap := (w2.setCell ⟨R, 4, none⟩ (.int .i64 z)).heap, tape := (w2.setCell ⟨R, 4, none⟩ (.int .i64 z)).tape, drawn := (w2.setCell ⟨R, 4, none⟩ (.int .i64 z)).drawn + 1, os := (w2.setCell ⟨R, 4, none⟩ (.int .i64 z)).os, output := (w2.setCell ⟨R, 4, none⟩ (.int .i64 z)).output } : World) = w3 := hww3.symm
  first | rw [← hww3] | rw [hwx]
  clear hwx
  clear e0 e3 e4 e5 e6 ef ep ei0 ei1 ei2 ei3 es0 es1 es2
  clear HM2
  have g0 : w3.cell? ⟨R, 0, none⟩ = some (.pointer (some ⟨b, 0, none⟩)) := HM3.out.rn.cell (i := 0) (by decide)
  have g3 := HM3.out.rn.cell (i := 3) (by decide)
  simp only [rnv] at g3
  have g4 := HM3.out.rn.cell (i := 4) (by decide)
  simp only [rnv] at g4
  have g5 := HM3.out.rn.cell (i := 5) (by decide)
  simp only [rnv] at g5
  have g6 := HM3.out.rn.cell (i := 6) (by decide)
  simp only [rnv] at g6
  have gf := HM3.out.rn.frozen
  have gp := HM3.out.hp
  have gi0 : w3.cell? ⟨C, 0, none⟩ = some (.int .i64 10) := by simp [World.cell?, HM3.out.i]
  have gi1 : w3.cell? ⟨C, 1, none⟩ = some (.int .i64 ia) := by simp [World.cell?, HM3.out.i]
  have gi2 : w3.cell? ⟨C, 2, none⟩ = some (.int .i64 ib) := by simp [World.cell?, HM3.out.i]
  have gi3 : w3.cell? ⟨C, 3, none⟩ = some (.int .i64 ic) := by simp [World.cell?, HM3.out.i]
  have gs0 : w3.cell? ⟨C + 1, 0, none⟩ = some (.int .i64 s0) := by simp [World.cell?, HM3.out.r]
  have gs1 : w3.cell? ⟨C + 1, 1, none⟩ = some (.int .i64 s1) := by simp [World.cell?, HM3.out.r]
  have gs2 : w3.cell? ⟨C + 1, 2, none⟩ = some (.int .i64 s2) := by simp [World.cell?, HM3.out.r]
  clear hww3
  refine wp_region_still_tail 14 hmx (by kernel_rfl) ?_
  simp only [List.take_succ_cons, List.take_zero, List.drop_succ_cons, List.drop_zero]
  repeat still_step
  still_call (HA3.out _ gp)
  repeat still_step
  refine wpStill_nil ?_
  go_wp2_with fail
  have HM4 := hid (HM3.out.put (n' := ⟨n.pc, z, (z + ib) % (p : Int), n.rv⟩) 5 ((z + ib) % (p : Int)) (fun i hi => by rcases seven hi with rfl | rfl | rfl | rfl | rfl | rfl | rfl <;> simp [rnv])).drew
  have HF : Hid (MvP p R b B aL nL cL C 10 ia ib ic s0 s1 s2 (mvg p 10 ia ib n s0 s1 s2) w ((w3.setCell ⟨R, 5, none⟩ (.int .i64 ((z + ib) % (p : Int)))).drew.setCell ⟨R, 3, none⟩ (.int .i64 (ia % (p : Int))))) := (HM4.out).put 3 _ (fun i hi => by rcases seven hi with rfl | rfl | rfl | rfl | rfl | rfl | rfl <;> simp [rnv, mvg, HZ.out])
  go_end0
  exact ⟨rfl, HF.out.rn, HF.out.gr⟩


set_option maxRecDepth 100000 in
set_option maxHeartbeats 2000000 in
theorem pmove_11 (p R b B : Nat) (aL : Option Addr) (nL cL : Nat) (ia ib ic s0 s1 s2 : Int) (n : Rg) (w : World) (h3 : 3 ≤ p) (h4 : p ≤ 2147483647) (hR : RnAt w R b B aL nL cL n) (hp : w.cell? ⟨b, 0, none⟩ = some (.int .i64 p)) (hne : b ≠ R) (hn : I64 n.pc ∧ I64 n.ap) (hi : I64 ia ∧ I64 ib) :
    Calls Tryz.prog 80 #[.pointer (some ⟨R, 0, none⟩), .agg #[.int .i64 11, .int .i64 ia, .int .i64 ib, .int .i64 ic], .agg #[.int .i64 s0, .int .i64 s1, .int .i64 s2]] w (MvR R b B aL nL cL (mvg p 11 ia ib n s0 s1 s2) w) := by
  have hmx : Tryz.prog.follows .mixedOrders = true := by kernel_rfl
  have HI := hid hi
  have HM0 := hid (mvP_of p R b B aL nL cL 11 ia ib ic s0 s1 s2 n w hR hp hne)
  obtain ⟨W0, hW0⟩ : ∃ W0, W0 = (w.alloc (.cells #[.int .i64 11, .int .i64 ia, .int .i64 ib, .int .i64 ic] 45)).alloc (.cells #[.int .i64 s0, .int .i64 s1, .int .i64 s2] 64) := ⟨_, rfl⟩
  rw [← hW0] at HM0
  have HA1 : Hid (∀ W : World, W.cell? ⟨b, 0, none⟩ = some (.int .i64 p) → Calls Tryz.prog 52 #[.pointer (some ⟨b, 0, none⟩), .int .i64 n.pc, .int .i64 1] W fun e w' => e = .returned (.int .i64 ((n.pc + 1) % (p : Int))) ∧ w' = W) := fun W h => add_any p b _ _ W h3 h4 h hn.1.1 hn.1.2 (by decide) (by decide)
  obtain ⟨C, hC⟩ : ∃ C, C = w.heap.size := ⟨_, rfl⟩
  rw [← hC] at HM0
  have c0 : W0.cell? ⟨R, 0, none⟩ = some (.pointer (some ⟨b, 0, none⟩)) := HM0.out.rn.cell (i := 0) (by decide)
  have c3 := HM0.out.rn.cell (i := 3) (by decide)
  simp only [rnv] at c3
  have c4 := HM0.out.rn.cell (i := 4) (by decide)
  simp only [rnv] at c4
  have c5 := HM0.out.rn.cell (i := 5) (by decide)
  simp only [rnv] at c5
  have c6 := HM0.out.rn.cell (i := 6) (by decide)
  simp only [rnv] at c6
  have cf := HM0.out.rn.frozen
  have cp := HM0.out.hp
  have ci0 : W0.cell? ⟨C, 0, none⟩ = some (.int .i64 11) := by simp [World.cell?, HM0.out.i]
  have ci1 : W0.cell? ⟨C, 1, none⟩ = some (.int .i64 ia) := by simp [World.cell?, HM0.out.i]
  have ci2 : W0.cell? ⟨C, 2, none⟩ = some (.int .i64 ib) := by simp [World.cell?, HM0.out.i]
  have ci3 : W0.cell? ⟨C, 3, none⟩ = some (.int .i64 ic) := by simp [World.cell?, HM0.out.i]
  have cs0 : W0.cell? ⟨C + 1, 0, none⟩ = some (.int .i64 s0) := by simp [World.cell?, HM0.out.r]
  have cs1 : W0.cell? ⟨C + 1, 1, none⟩ = some (.int .i64 s1) := by simp [World.cell?, HM0.out.r]
  have cs2 : W0.cell? ⟨C + 1, 2, none⟩ = some (.int .i64 s2) := by simp [World.cell?, HM0.out.r]
  clear hR hp hne hn hi h3 h4
  go_enter Tryz.func80, Tryz.ntmps80
  go_wp2_with fail
  rw [← hW0, ← hC]
  clear hW0 hC
  refine wp_region_still_tail 9 hmx (by kernel_rfl) ?_
  simp only [List.take_succ_cons, List.take_zero, List.drop_succ_cons, List.drop_zero]
  repeat still_step
  still_call (HA1.out _ cp)
  repeat still_step
  refine wpStill_nil ?_
  go_wp2_with fail
  have HM1 := hid (HM0.out.drew)
  obtain ⟨w1, hww1⟩ : ∃ v, v = W0.drew := ⟨_, rfl⟩
  rw [← hww1] at HM1
  have hwx : ({ heap := W0.heap, tape := W0.tape, drawn := W0.drawn + 1, os := W0.os, output := W0.output } : World) = w1 := hww1.symm
  first | rw [← hww1] | rw [hwx]
  clear hwx
  clear c0 c3 c4 c5 c6 cf cp ci0 ci1 ci2 ci3 cs0 cs1 cs2
  clear HM0
  have d0 : w1.cell? ⟨R, 0, none⟩ = some (.pointer (some ⟨b, 0, none⟩)) := HM1.out.rn.cell (i := 0) (by decide)
  have d3 := HM1.out.rn.cell (i := 3) (by decide)
  simp only [rnv] at d3
  have d4 := HM1.out.rn.cell (i := 4) (by decide)
  simp only [rnv] at d4
  have d5 := HM1.out.rn.cell (i := 5) (by decide)
  simp only [rnv] at d5
  have d6 := HM1.out.rn.cell (i := 6) (by decide)
  simp only [rnv] at d6
  have df := HM1.out.rn.frozen
  have dp := HM1.out.hp
  have di0 : w1.cell? ⟨C, 0, none⟩ = some (.int .i64 11) := by simp [World.cell?, HM1.out.i]
  have di1 : w1.cell? ⟨C, 1, none⟩ = some (.int .i64 ia) := by simp [World.cell?, HM1.out.i]
  have di2 : w1.cell? ⟨C, 2, none⟩ = some (.int .i64 ib) := by simp [World.cell?, HM1.out.i]
  have di3 : w1.cell? ⟨C, 3, none⟩ = some (.int .i64 ic) := by simp [World.cell?, HM1.out.i]
  have ds0 : w1.cell? ⟨C + 1, 0, none⟩ = some (.int .i64 s0) := by simp [World.cell?, HM1.out.r]
  have ds1 : w1.cell? ⟨C + 1, 1, none⟩ = some (.int .i64 s1) := by simp [World.cell?, HM1.out.r]
  have ds2 : w1.cell? ⟨C + 1, 2, none⟩ = some (.int .i64 s2) := by simp [World.cell?, HM1.out.r]
  clear hww1
  have HN : Hid (C + 1 ≠ R) := by
    rintro rfl
    have h1 := HM1.out.r
    obtain ⟨c, h2, _⟩ := HM1.out.rn
    rw [h2] at h1
    injection h1 with h1
    injection h1 with _ h1 _
    exact absurd h1 (by decide)
  have HKS : Hid (∀ (W : World) (k : Nat) (v : Value), (W.cell? ⟨C + 1, 0, none⟩ = some (.int .i64 s0) ∧ W.cell? ⟨C + 1, 1, none⟩ = some (.int .i64 s1) ∧ W.cell? ⟨C + 1, 2, none⟩ = some (.int .i64 s2)) → ((W.setCell ⟨R, k, none⟩ v).cell? ⟨C + 1, 0, none⟩ = some (.int .i64 s0) ∧ (W.setCell ⟨R, k, none⟩ v).cell? ⟨C + 1, 1, none⟩ = some (.int .i64 s1) ∧ (W.setCell ⟨R, k, none⟩ v).cell? ⟨C + 1, 2, none⟩ = some (.int .i64 s2))) := fun W k v h => ⟨(World.cell?_of_block (w := W) (a := ⟨C + 1, 0, none⟩) (Below.heap_setCell _ _ _ _ HN.out)).trans h.1, (World.cell?_of_block (w := W) (a := ⟨C + 1, 1, none⟩) (Below.heap_setCell _ _ _ _ HN.out)).trans h.2.1, (World.cell?_of_block (w := W) (a := ⟨C + 1, 2, none⟩) (Below.heap_setCell _ _ _ _ HN.out)).trans h.2.2⟩
  refine wp_region_held_drew (S := (fun W => W.cell? ⟨C + 1, 0, none⟩ = some (.int .i64 s0) ∧ W.cell? ⟨C + 1, 1, none⟩ = some (.int .i64 s1) ∧ W.cell? ⟨C + 1, 2, none⟩ = some (.int .i64 s2))) (by kernel_rfl) ⟨ds0, ds1, ds2⟩ (fun hHeld => ?_)
  refine wpAnyH_takeW (i := 0) (v := .pointer (some ⟨R, 0, none⟩)) rfl (by kernel_rfl) (by kernel_rfl) (by kernel_rfl) (fun _ _ _ h => h) (by rfl) (fun W hC => by (obtain ⟨y0, y1, y2⟩ := hC); go_simp) hHeld ?_
  simp only [Act.put, List.setIfInBounds_toArray, List.set_cons_zero, List.set_cons_succ]
  refine wpAnyH_takeW (i := 1) (v := .pointer (some ⟨R, 0, none⟩)) rfl (by kernel_rfl) (by kernel_rfl) (by kernel_rfl) (fun _ _ _ h => h) (by rfl) (fun W hC => by (obtain ⟨y0, y1, y2⟩ := hC); go_simp) hHeld ?_
  simp only [Act.put, List.setIfInBounds_toArray, List.set_cons_zero, List.set_cons_succ]
  refine wpAnyH_takeW (i := 2) (v := .pointer (some ⟨C + 1, 0, none⟩)) rfl (by kernel_rfl) (by kernel_rfl) (by kernel_rfl) (fun _ _ _ h => h) (by rfl) (fun W hC => by (obtain ⟨y0, y1, y2⟩ := hC); go_simp) hHeld ?_
  simp only [Act.put, List.setIfInBounds_toArray, List.set_cons_zero, List.set_cons_succ]
  refine wpAnyH_takeW (i := 3) (v := .int .i64 s0) rfl (by kernel_rfl) (by kernel_rfl) (by kernel_rfl) (fun _ _ _ h => h) (by rfl) (fun W hC => by (obtain ⟨y0, y1, y2⟩ := hC); go_simp) hHeld ?_
  simp only [Act.put, List.setIfInBounds_toArray, List.set_cons_zero, List.set_cons_succ]
  refine wpAnyH_takeW (i := 4) (v := .pointer (some ⟨C + 1, 1, none⟩)) rfl (by kernel_rfl) (by kernel_rfl) (by kernel_rfl) (fun _ _ _ h => h) (by rfl) (fun W hC => by (obtain ⟨y0, y1, y2⟩ := hC); go_simp) hHeld ?_
  simp only [Act.put, List.setIfInBounds_toArray, List.set_cons_zero, List.set_cons_succ]
  refine wpAnyH_takeW (i := 5) (v := .int .i64 s1) rfl (by kernel_rfl) (by kernel_rfl) (by kernel_rfl) (fun _ _ _ h => h) (by rfl) (fun W hC => by (obtain ⟨y0, y1, y2⟩ := hC); go_simp) hHeld ?_
  simp only [Act.put, List.setIfInBounds_toArray, List.set_cons_zero, List.set_cons_succ]
  refine wpAnyH_takeW (i := 6) (v := .pointer (some ⟨C + 1, 2, none⟩)) rfl (by kernel_rfl) (by kernel_rfl) (by kernel_rfl) (fun _ _ _ h => h) (by rfl) (fun W hC => by (obtain ⟨y0, y1, y2⟩ := hC); go_simp) hHeld ?_
  simp only [Act.put, List.setIfInBounds_toArray, List.set_cons_zero, List.set_cons_succ]
  refine wpAnyH_takeW (i := 7) (v := .int .i64 s2) rfl (by kernel_rfl) (by kernel_rfl) (by kernel_rfl) (fun _ _ _ h => h) (by rfl) (fun W hC => by (obtain ⟨y0, y1, y2⟩ := hC); go_simp) hHeld ?_
  simp only [Act.put, List.setIfInBounds_toArray, List.set_cons_zero, List.set_cons_succ]
  refine wpAnyH_takeW (i := 8) (v := .pointer (some ⟨R, 0, none⟩)) rfl (by kernel_rfl) (by kernel_rfl) (by kernel_rfl) (fun _ _ _ h => h) (by rfl) (fun W hC => by (obtain ⟨y0, y1, y2⟩ := hC); go_simp) hHeld ?_
  simp only [Act.put, List.setIfInBounds_toArray, List.set_cons_zero, List.set_cons_succ]
  refine wpAnyH_takeW (i := 9) (v := .pointer (some ⟨R, 4, none⟩)) rfl (by kernel_rfl) (by kernel_rfl) (by kernel_rfl) (fun _ _ _ h => h) (by rfl) (fun W hC => by (obtain ⟨y0, y1, y2⟩ := hC); go_simp) hHeld ?_
  simp only [Act.put, List.setIfInBounds_toArray, List.set_cons_zero, List.set_cons_succ]
  refine wpAnyH_ready (rs := [10]) (by kernel_rfl) (by simp) ?_
  refine AllReadyH.consW rfl (fun K hK => ?_) AllReadyH.nil
  go_simp
  refine hK.out _ _ (HKS.out _ 4 _ hHeld) (fun hHeld => ?_)
  clear hK K
  refine wpAnyH_ready (rs := [11]) (by kernel_rfl) (by simp) ?_
  refine AllReadyH.consW rfl (fun K hK => ?_) AllReadyH.nil
  go_simp
  refine hK.out _ _ hHeld (fun hHeld => ?_)
  clear hK K
  refine wpAnyH_takeW (i := 12) (v := .pointer (some ⟨R, 0, none⟩)) rfl (by kernel_rfl) (by kernel_rfl) (by kernel_rfl) (fun _ _ _ h => h) (by rfl) (fun W hC => by (obtain ⟨y0, y1, y2⟩ := hC); go_simp) hHeld ?_
  simp only [Act.put, List.setIfInBounds_toArray, List.set_cons_zero, List.set_cons_succ]
  refine wpAnyH_takeW (i := 13) (v := .pointer (some ⟨R, 6, none⟩)) rfl (by kernel_rfl) (by kernel_rfl) (by kernel_rfl) (fun _ _ _ h => h) (by rfl) (fun W hC => by (obtain ⟨y0, y1, y2⟩ := hC); go_simp) hHeld ?_
  simp only [Act.put, List.setIfInBounds_toArray, List.set_cons_zero, List.set_cons_succ]
  refine wpAnyH_ready (rs := [14]) (by kernel_rfl) (by simp) ?_
  refine AllReadyH.consW rfl (fun K hK => ?_) AllReadyH.nil
  go_simp
  refine hK.out _ _ (HKS.out _ 6 _ hHeld) (fun hHeld => ?_)
  clear hK K
  refine wpAnyH_done (by kernel_rfl) ?_ _
  go_wp2_with fail
  have HF := hid ((((HM1.out.put (n' := ⟨n.pc, s0, n.ap, n.rv⟩) 4 s0 (fun i hi => by rcases seven hi with rfl | rfl | rfl | rfl | rfl | rfl | rfl <;> simp [rnv])).put (n' := ⟨n.pc, s0, n.ap, s2⟩) 6 s2 (fun i hi => by rcases seven hi with rfl | rfl | rfl | rfl | rfl | rfl | rfl <;> simp [rnv])).put (n' := mvg p 11 ia ib n s0 s1 s2) 3 s1 (fun i hi => by rcases seven hi with rfl | rfl | rfl | rfl | rfl | rfl | rfl <;> simp [rnv, mvg])).drew)
  go_end0
  exact ⟨rfl, HF.out.rn, HF.out.gr⟩

end Go.Proofs.YtdpdmgmeieijaaaGreatDoor
