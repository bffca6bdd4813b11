/- Package machine: cells. Package machine: what work comes to. -/
import Derived.Test.YtdpdmgmeieijaaaGreatDoorSndAF
import Derived.Deep.RegionHeld3
namespace Go.Proofs.YtdpdmgmeieijaaaGreatDoor
open Go.RowKit Go.Maps

/-- the cells of an instruction -/
def cel3 (p : Nat) (op a b c fp ap : Int) (i : Nat) : Int :=
  if op = 1 ∨ op = 2 ∨ op = 3 ∨ op = 4 ∨ op = 6 then (if i = 0 then (fp + a) % (p : Int) else if i = 1 then (fp + b) % (p : Int) else (fp + c) % (p : Int))
  else if op = 7 then (if i = 0 then (fp + a) % (p : Int) else if i = 1 then (fp + b) % (p : Int) else 0)
  else if op = 5 ∨ op = 9 ∨ op = 12 ∨ op = 0 then (if i = 0 then (fp + a) % (p : Int) else 0)
  else if op = 10 then (if i = 0 then ap % (p : Int) else if i = 1 then (ap + 1) % (p : Int) else 0)
  else if op = 11 then (if i = 0 then (fp - 2) % (p : Int) else if i = 1 then (fp - 1) % (p : Int) else (fp + a) % (p : Int))
  else if op = 13 then (if i = 0 then (fp + a) % (p : Int) else if i = 1 then ((ap + 2) % (p : Int) + b) % (p : Int) else 0)
  else 0
def I64 (x : Int) : Prop := -9223372036854775808 ≤ x ∧ x ≤ 9223372036854775807
/-- what stands in cells -/
structure CeP (p b B : Nat) (op ia ib ic : Int) (w W : World) : Prop where
  hp : W.cell? ⟨b, 0, none⟩ = some (.int .i64 p)
  i0 : W.cell? ⟨B, 0, none⟩ = some (.int .i64 op)
  i1 : W.cell? ⟨B, 1, none⟩ = some (.int .i64 ia)
  i2 : W.cell? ⟨B, 2, none⟩ = some (.int .i64 ib)
  i3 : W.cell? ⟨B, 3, none⟩ = some (.int .i64 ic)
  r : W.heap[B + 1]? = some (.cells #[.int .i64 0, .int .i64 0, .int .i64 0] 64 (0, 0))
  bel : Below w.heap.size w W
theorem ceP_of (p b : Nat) (op ia ib ic : Int) (w : World) (hp : w.cell? ⟨b, 0, none⟩ = some (.int .i64 p)) : CeP p b w.heap.size op ia ib ic w ((w.alloc (.cells #[.int .i64 op, .int .i64 ia, .int .i64 ib, .int .i64 ic] 45)).alloc (.cells #[.int .i64 0, .int .i64 0, .int .i64 0] 64)) := by
  obtain ⟨V, hV⟩ : ∃ V, V = w.alloc (.cells #[.int .i64 op, .int .i64 ia, .int .i64 ib, .int .i64 ic] 45) := ⟨_, rfl⟩
  have b1 : Below w.heap.size w V := by rw [hV]; exact (Below.refl _ _).alloc (Nat.le_refl _) _
  have hs : V.heap.size = w.heap.size + 1 := by rw [hV]; simp
  have hi : V.heap[w.heap.size]? = some (.cells #[.int .i64 op, .int .i64 ia, .int .i64 ib, .int .i64 ic] 45 (0, 0)) := by rw [hV]; exact heap_alloc_new w _
  rw [← hV]
  have b2 : Below V.heap.size V (V.alloc (.cells #[.int .i64 0, .int .i64 0, .int .i64 0] 64)) := (Below.refl _ _).alloc (Nat.le_refl _) _
  have hi2 := (b2.block w.heap.size (by omega)).trans hi
  have hbl := b1.trans (b2.mono b1.size)
  have hr : (V.alloc (.cells #[.int .i64 0, .int .i64 0, .int .i64 0] 64)).heap[w.heap.size + 1]? = some (.cells #[.int .i64 0, .int .i64 0, .int .i64 0] 64 (0, 0)) := by rw [← hs]; exact heap_alloc_new V _
  refine ⟨(hbl.cell (p := ⟨b, 0, none⟩) (World.block_lt_of_cell? _ _ hp)).trans hp, ?_, ?_, ?_, ?_, hr, hbl⟩
  all_goals simp [World.cell?, hi2]
theorem row3_arr {W : World} {g : Nat} {t : TypeId} {f : Nat → Value} (h : W.rowIs g t 3 f) : W.heap[g]? = some (.cells #[f 0, f 1, f 2] t (0, 0)) := by
  obtain ⟨c, hb, hs, hc⟩ := h
  rw [hb]
  congr 2
  apply Array.ext
  · simpa using hs
  · intro i h1 h2
    have h4 : i < 3 := by simpa using h2
    have := hc i h4
    rw [Array.getElem?_eq_getElem h1] at this
    injection this with this
    rw [this]
    have : i = 0 ∨ i = 1 ∨ i = 2 := by omega
    rcases this with rfl | rfl | rfl <;> rfl
theorem row3_of {W : World} {g : Nat} {t : TypeId} {a b c : Value} (h : W.heap[g]? = some (.cells #[a, b, c] t (0, 0))) : W.rowIs g t 3 (fun i => #[a, b, c].getD i .nilFunc) :=
  ⟨_, h, rfl, fun i hi => by
    have : i = 0 ∨ i = 1 ∨ i = 2 := by omega
    rcases this with rfl | rfl | rfl <;> rfl⟩
theorem put3_heap {W : World} {g : Nat} {t : TypeId} {z0 z1 z2 : Value} (h : W.heap[g]? = some (.cells #[z0, z1, z2] t (0, 0))) (a b c : Value) : (((W.setCell ⟨g, 0, none⟩ a).setCell ⟨g, 1, none⟩ b).setCell ⟨g, 2, none⟩ c).heap[g]? = some (.cells #[a, b, c] t (0, 0)) := by
  have := row3_arr ((((row3_of h).set 0 a).set 1 b).set 2 c)
  simpa using this
theorem put3_below {N : Nat} {w W : World} {g : Nat} (e : Below N w W) (hg : N ≤ g) (a b c : Value) : Below N w (((W.setCell ⟨g, 0, none⟩ a).setCell ⟨g, 1, none⟩ b).setCell ⟨g, 2, none⟩ c) :=
  ⟨e.os, e.tape, e.output, by simpa [World.setCell] using e.size, fun k hk => by
    rw [Below.heap_setCell _ _ _ _ (by show k ≠ g; omega), Below.heap_setCell _ _ _ _ (by show k ≠ g; omega), Below.heap_setCell _ _ _ _ (by show k ≠ g; omega)]
    exact e.block k hk⟩
/-- what cells gives -/
def CeR (p : Nat) (op ia ib ic fp ap : Int) (w : World) (e : Ending) (w' : World) : Prop := e = .returned (.agg #[.int .i64 (cel3 p op ia ib ic fp ap 0), .int .i64 (cel3 p op ia ib ic fp ap 1), .int .i64 (cel3 p op ia ib ic fp ap 2)]) ∧ Below w.heap.size w w'


set_option maxRecDepth 100000 in
set_option maxHeartbeats 1000000 in
theorem pcells_1 (p b : Nat) (ia ib ic fp ap : Int) (w : World) (h3 : 3 ≤ p) (h4 : p ≤ 2147483647) (hp : w.cell? ⟨b, 0, none⟩ = some (.int .i64 p)) (hb : I64 ia ∧ I64 ib ∧ I64 ic ∧ I64 fp ∧ I64 ap) :
    Calls Tryz.prog 78 #[.pointer (some ⟨b, 0, none⟩), .agg #[.int .i64 1, .int .i64 ia, .int .i64 ib, .int .i64 ic], .int .i64 fp, .int .i64 ap] w (CeR p 1 ia ib ic fp ap w) := by
  have hmx : Tryz.prog.follows .mixedOrders = true := by kernel_rfl
  obtain ⟨hia, hib, hic, hfp, hap⟩ := hb
  have HP := hid (ceP_of p b 1 ia ib ic w hp)
  have HC0 : Hid (∀ W : World, W.cell? ⟨b, 0, none⟩ = some (.int .i64 p) → Calls Tryz.prog 52 #[.pointer (some ⟨b, 0, none⟩), .int .i64 fp, .int .i64 ia] W fun e w' => e = .returned (.int .i64 ((fp + ia) % (p : Int))) ∧ w' = W) := fun W h => add_any p b _ _ W h3 h4 h hfp.1 hfp.2 hia.1 hia.2
  have HC1 : Hid (∀ W : World, W.cell? ⟨b, 0, none⟩ = some (.int .i64 p) → Calls Tryz.prog 52 #[.pointer (some ⟨b, 0, none⟩), .int .i64 fp, .int .i64 ib] W fun e w' => e = .returned (.int .i64 ((fp + ib) % (p : Int))) ∧ w' = W) := fun W h => add_any p b _ _ W h3 h4 h hfp.1 hfp.2 hib.1 hib.2
  have HC2 : Hid (∀ W : World, W.cell? ⟨b, 0, none⟩ = some (.int .i64 p) → Calls Tryz.prog 52 #[.pointer (some ⟨b, 0, none⟩), .int .i64 fp, .int .i64 ic] W fun e w' => e = .returned (.int .i64 ((fp + ic) % (p : Int))) ∧ w' = W) := fun W h => add_any p b _ _ W h3 h4 h hfp.1 hfp.2 hic.1 hic.2
  obtain ⟨W0, hW0⟩ : ∃ W0, W0 = (w.alloc (.cells #[.int .i64 1, .int .i64 ia, .int .i64 ib, .int .i64 ic] 45)).alloc (.cells #[.int .i64 0, .int .i64 0, .int .i64 0] 64) := ⟨_, rfl⟩
  rw [← hW0] at HP
  have hpc := HP.out.hp
  have j1 := HP.out.i1
  have j2 := HP.out.i2
  have j3 := HP.out.i3
  have y0 : ∀ i, W0.frozen? ⟨w.heap.size + 1, i, none⟩ = false := (row3_of HP.out.r).frozen
  have z0 : W0.cell? ⟨w.heap.size + 1, 0, none⟩ = some (.int .i64 0) := by simp [World.cell?, HP.out.r]
  have z1 : W0.cell? ⟨w.heap.size + 1, 1, none⟩ = some (.int .i64 0) := by simp [World.cell?, HP.out.r]
  have z2 : W0.cell? ⟨w.heap.size + 1, 2, none⟩ = some (.int .i64 0) := by simp [World.cell?, HP.out.r]
  clear hp hia hib hic hfp hap h3 h4
  go_enter Tryz.func78, Tryz.ntmps78
  go_wp2_with fail
  rw [← hW0]
  clear hW0
  refine wp_region_still_tail 16 hmx (by kernel_rfl) ?_
  simp only [List.take_succ_cons, List.take_zero, List.drop_succ_cons, List.drop_zero]
  repeat still_step
  still_call (HC0.out _ hpc)
  repeat still_step
  still_call (HC1.out _ hpc)
  repeat still_step
  still_call (HC2.out _ hpc)
  repeat still_step
  refine wpStill_nil ?_
  go_wp2_with fail
  (try simp only [Exit.inBlock, Exit.then])
  refine bodyPost_ret (results_cell_row rfl _ _ (w.heap.size + 1) 64 #[.int .i64 ((fp + ia) % (p : Int)), .int .i64 ((fp + ib) % (p : Int)), .int .i64 ((fp + ic) % (p : Int))] (0, 0) _ rfl (put3_heap HP.out.r (.int .i64 ((fp + ia) % (p : Int))) (.int .i64 ((fp + ib) % (p : Int))) (.int .i64 ((fp + ic) % (p : Int)))) Tryz.underlying64 rfl (by kernel_rfl)) rfl ?_
  refine ⟨by simp [cel3], (put3_below HP.out.bel (by omega) _ _ _).drew⟩

set_option maxRecDepth 100000 in
set_option maxHeartbeats 1000000 in
theorem pcells_2 (p b : Nat) (ia ib ic fp ap : Int) (w : World) (h3 : 3 ≤ p) (h4 : p ≤ 2147483647) (hp : w.cell? ⟨b, 0, none⟩ = some (.int .i64 p)) (hb : I64 ia ∧ I64 ib ∧ I64 ic ∧ I64 fp ∧ I64 ap) :
    Calls Tryz.prog 78 #[.pointer (some ⟨b, 0, none⟩), .agg #[.int .i64 2, .int .i64 ia, .int .i64 ib, .int .i64 ic], .int .i64 fp, .int .i64 ap] w (CeR p 2 ia ib ic fp ap w) := by
  have hmx : Tryz.prog.follows .mixedOrders = true := by kernel_rfl
  obtain ⟨hia, hib, hic, hfp, hap⟩ := hb
  have HP := hid (ceP_of p b 2 ia ib ic w hp)
  have HC0 : Hid (∀ W : World, W.cell? ⟨b, 0, none⟩ = some (.int .i64 p) → Calls Tryz.prog 52 #[.pointer (some ⟨b, 0, none⟩), .int .i64 fp, .int .i64 ia] W fun e w' => e = .returned (.int .i64 ((fp + ia) % (p : Int))) ∧ w' = W) := fun W h => add_any p b _ _ W h3 h4 h hfp.1 hfp.2 hia.1 hia.2
  have HC1 : Hid (∀ W : World, W.cell? ⟨b, 0, none⟩ = some (.int .i64 p) → Calls Tryz.prog 52 #[.pointer (some ⟨b, 0, none⟩), .int .i64 fp, .int .i64 ib] W fun e w' => e = .returned (.int .i64 ((fp + ib) % (p : Int))) ∧ w' = W) := fun W h => add_any p b _ _ W h3 h4 h hfp.1 hfp.2 hib.1 hib.2
  have HC2 : Hid (∀ W : World, W.cell? ⟨b, 0, none⟩ = some (.int .i64 p) → Calls Tryz.prog 52 #[.pointer (some ⟨b, 0, none⟩), .int .i64 fp, .int .i64 ic] W fun e w' => e = .returned (.int .i64 ((fp + ic) % (p : Int))) ∧ w' = W) := fun W h => add_any p b _ _ W h3 h4 h hfp.1 hfp.2 hic.1 hic.2
  obtain ⟨W0, hW0⟩ : ∃ W0, W0 = (w.alloc (.cells #[.int .i64 2, .int .i64 ia, .int .i64 ib, .int .i64 ic] 45)).alloc (.cells #[.int .i64 0, .int .i64 0, .int .i64 0] 64) := ⟨_, rfl⟩
  rw [← hW0] at HP
  have hpc := HP.out.hp
  have j1 := HP.out.i1
  have j2 := HP.out.i2
  have j3 := HP.out.i3
  have y0 : ∀ i, W0.frozen? ⟨w.heap.size + 1, i, none⟩ = false := (row3_of HP.out.r).frozen
  have z0 : W0.cell? ⟨w.heap.size + 1, 0, none⟩ = some (.int .i64 0) := by simp [World.cell?, HP.out.r]
  have z1 : W0.cell? ⟨w.heap.size + 1, 1, none⟩ = some (.int .i64 0) := by simp [World.cell?, HP.out.r]
  have z2 : W0.cell? ⟨w.heap.size + 1, 2, none⟩ = some (.int .i64 0) := by simp [World.cell?, HP.out.r]
  clear hp hia hib hic hfp hap h3 h4
  go_enter Tryz.func78, Tryz.ntmps78
  go_wp2_with fail
  rw [← hW0]
  clear hW0
  refine wp_region_still_tail 16 hmx (by kernel_rfl) ?_
  simp only [List.take_succ_cons, List.take_zero, List.drop_succ_cons, List.drop_zero]
  repeat still_step
  still_call (HC0.out _ hpc)
  repeat still_step
  still_call (HC1.out _ hpc)
  repeat still_step
  still_call (HC2.out _ hpc)
  repeat still_step
  refine wpStill_nil ?_
  go_wp2_with fail
  (try simp only [Exit.inBlock, Exit.then])
  refine bodyPost_ret (results_cell_row rfl _ _ (w.heap.size + 1) 64 #[.int .i64 ((fp + ia) % (p : Int)), .int .i64 ((fp + ib) % (p : Int)), .int .i64 ((fp + ic) % (p : Int))] (0, 0) _ rfl (put3_heap HP.out.r (.int .i64 ((fp + ia) % (p : Int))) (.int .i64 ((fp + ib) % (p : Int))) (.int .i64 ((fp + ic) % (p : Int)))) Tryz.underlying64 rfl (by kernel_rfl)) rfl ?_
  refine ⟨by simp [cel3], (put3_below HP.out.bel (by omega) _ _ _).drew⟩

set_option maxRecDepth 100000 in
set_option maxHeartbeats 1000000 in
theorem pcells_3 (p b : Nat) (ia ib ic fp ap : Int) (w : World) (h3 : 3 ≤ p) (h4 : p ≤ 2147483647) (hp : w.cell? ⟨b, 0, none⟩ = some (.int .i64 p)) (hb : I64 ia ∧ I64 ib ∧ I64 ic ∧ I64 fp ∧ I64 ap) :
    Calls Tryz.prog 78 #[.pointer (some ⟨b, 0, none⟩), .agg #[.int .i64 3, .int .i64 ia, .int .i64 ib, .int .i64 ic], .int .i64 fp, .int .i64 ap] w (CeR p 3 ia ib ic fp ap w) := by
  have hmx : Tryz.prog.follows .mixedOrders = true := by kernel_rfl
  obtain ⟨hia, hib, hic, hfp, hap⟩ := hb
  have HP := hid (ceP_of p b 3 ia ib ic w hp)
  have HC0 : Hid (∀ W : World, W.cell? ⟨b, 0, none⟩ = some (.int .i64 p) → Calls Tryz.prog 52 #[.pointer (some ⟨b, 0, none⟩), .int .i64 fp, .int .i64 ia] W fun e w' => e = .returned (.int .i64 ((fp + ia) % (p : Int))) ∧ w' = W) := fun W h => add_any p b _ _ W h3 h4 h hfp.1 hfp.2 hia.1 hia.2
  have HC1 : Hid (∀ W : World, W.cell? ⟨b, 0, none⟩ = some (.int .i64 p) → Calls Tryz.prog 52 #[.pointer (some ⟨b, 0, none⟩), .int .i64 fp, .int .i64 ib] W fun e w' => e = .returned (.int .i64 ((fp + ib) % (p : Int))) ∧ w' = W) := fun W h => add_any p b _ _ W h3 h4 h hfp.1 hfp.2 hib.1 hib.2
  have HC2 : Hid (∀ W : World, W.cell? ⟨b, 0, none⟩ = some (.int .i64 p) → Calls Tryz.prog 52 #[.pointer (some ⟨b, 0, none⟩), .int .i64 fp, .int .i64 ic] W fun e w' => e = .returned (.int .i64 ((fp + ic) % (p : Int))) ∧ w' = W) := fun W h => add_any p b _ _ W h3 h4 h hfp.1 hfp.2 hic.1 hic.2
  obtain ⟨W0, hW0⟩ : ∃ W0, W0 = (w.alloc (.cells #[.int .i64 3, .int .i64 ia, .int .i64 ib, .int .i64 ic] 45)).alloc (.cells #[.int .i64 0, .int .i64 0, .int .i64 0] 64) := ⟨_, rfl⟩
  rw [← hW0] at HP
  have hpc := HP.out.hp
  have j1 := HP.out.i1
  have j2 := HP.out.i2
  have j3 := HP.out.i3
  have y0 : ∀ i, W0.frozen? ⟨w.heap.size + 1, i, none⟩ = false := (row3_of HP.out.r).frozen
  have z0 : W0.cell? ⟨w.heap.size + 1, 0, none⟩ = some (.int .i64 0) := by simp [World.cell?, HP.out.r]
  have z1 : W0.cell? ⟨w.heap.size + 1, 1, none⟩ = some (.int .i64 0) := by simp [World.cell?, HP.out.r]
  have z2 : W0.cell? ⟨w.heap.size + 1, 2, none⟩ = some (.int .i64 0) := by simp [World.cell?, HP.out.r]
  clear hp hia hib hic hfp hap h3 h4
  go_enter Tryz.func78, Tryz.ntmps78
  go_wp2_with fail
  rw [← hW0]
  clear hW0
  refine wp_region_still_tail 16 hmx (by kernel_rfl) ?_
  simp only [List.take_succ_cons, List.take_zero, List.drop_succ_cons, List.drop_zero]
  repeat still_step
  still_call (HC0.out _ hpc)
  repeat still_step
  still_call (HC1.out _ hpc)
  repeat still_step
  still_call (HC2.out _ hpc)
  repeat still_step
  refine wpStill_nil ?_
  go_wp2_with fail
  (try simp only [Exit.inBlock, Exit.then])
  refine bodyPost_ret (results_cell_row rfl _ _ (w.heap.size + 1) 64 #[.int .i64 ((fp + ia) % (p : Int)), .int .i64 ((fp + ib) % (p : Int)), .int .i64 ((fp + ic) % (p : Int))] (0, 0) _ rfl (put3_heap HP.out.r (.int .i64 ((fp + ia) % (p : Int))) (.int .i64 ((fp + ib) % (p : Int))) (.int .i64 ((fp + ic) % (p : Int)))) Tryz.underlying64 rfl (by kernel_rfl)) rfl ?_
  refine ⟨by simp [cel3], (put3_below HP.out.bel (by omega) _ _ _).drew⟩

set_option maxRecDepth 100000 in
set_option maxHeartbeats 1000000 in
theorem pcells_4 (p b : Nat) (ia ib ic fp ap : Int) (w : World) (h3 : 3 ≤ p) (h4 : p ≤ 2147483647) (hp : w.cell? ⟨b, 0, none⟩ = some (.int .i64 p)) (hb : I64 ia ∧ I64 ib ∧ I64 ic ∧ I64 fp ∧ I64 ap) :
    Calls Tryz.prog 78 #[.pointer (some ⟨b, 0, none⟩), .agg #[.int .i64 4, .int .i64 ia, .int .i64 ib, .int .i64 ic], .int .i64 fp, .int .i64 ap] w (CeR p 4 ia ib ic fp ap w) := by
  have hmx : Tryz.prog.follows .mixedOrders = true := by kernel_rfl
  obtain ⟨hia, hib, hic, hfp, hap⟩ := hb
  have HP := hid (ceP_of p b 4 ia ib ic w hp)
  have HC0 : Hid (∀ W : World, W.cell? ⟨b, 0, none⟩ = some (.int .i64 p) → Calls Tryz.prog 52 #[.pointer (some ⟨b, 0, none⟩), .int .i64 fp, .int .i64 ia] W fun e w' => e = .returned (.int .i64 ((fp + ia) % (p : Int))) ∧ w' = W) := fun W h => add_any p b _ _ W h3 h4 h hfp.1 hfp.2 hia.1 hia.2
  have HC1 : Hid (∀ W : World, W.cell? ⟨b, 0, none⟩ = some (.int .i64 p) → Calls Tryz.prog 52 #[.pointer (some ⟨b, 0, none⟩), .int .i64 fp, .int .i64 ib] W fun e w' => e = .returned (.int .i64 ((fp + ib) % (p : Int))) ∧ w' = W) := fun W h => add_any p b _ _ W h3 h4 h hfp.1 hfp.2 hib.1 hib.2
  have HC2 : Hid (∀ W : World, W.cell? ⟨b, 0, none⟩ = some (.int .i64 p) → Calls Tryz.prog 52 #[.pointer (some ⟨b, 0, none⟩), .int .i64 fp, .int .i64 ic] W fun e w' => e = .returned (.int .i64 ((fp + ic) % (p : Int))) ∧ w' = W) := fun W h => add_any p b _ _ W h3 h4 h hfp.1 hfp.2 hic.1 hic.2
  obtain ⟨W0, hW0⟩ : ∃ W0, W0 = (w.alloc (.cells #[.int .i64 4, .int .i64 ia, .int .i64 ib, .int .i64 ic] 45)).alloc (.cells #[.int .i64 0, .int .i64 0, .int .i64 0] 64) := ⟨_, rfl⟩
  rw [← hW0] at HP
  have hpc := HP.out.hp
  have j1 := HP.out.i1
  have j2 := HP.out.i2
  have j3 := HP.out.i3
  have y0 : ∀ i, W0.frozen? ⟨w.heap.size + 1, i, none⟩ = false := (row3_of HP.out.r).frozen
  have z0 : W0.cell? ⟨w.heap.size + 1, 0, none⟩ = some (.int .i64 0) := by simp [World.cell?, HP.out.r]
  have z1 : W0.cell? ⟨w.heap.size + 1, 1, none⟩ = some (.int .i64 0) := by simp [World.cell?, HP.out.r]
  have z2 : W0.cell? ⟨w.heap.size + 1, 2, none⟩ = some (.int .i64 0) := by simp [World.cell?, HP.out.r]
  clear hp hia hib hic hfp hap h3 h4
  go_enter Tryz.func78, Tryz.ntmps78
  go_wp2_with fail
  rw [← hW0]
  clear hW0
  refine wp_region_still_tail 16 hmx (by kernel_rfl) ?_
  simp only [List.take_succ_cons, List.take_zero, List.drop_succ_cons, List.drop_zero]
  repeat still_step
  still_call (HC0.out _ hpc)
  repeat still_step
  still_call (HC1.out _ hpc)
  repeat still_step
  still_call (HC2.out _ hpc)
  repeat still_step
  refine wpStill_nil ?_
  go_wp2_with fail
  (try simp only [Exit.inBlock, Exit.then])
  refine bodyPost_ret (results_cell_row rfl _ _ (w.heap.size + 1) 64 #[.int .i64 ((fp + ia) % (p : Int)), .int .i64 ((fp + ib) % (p : Int)), .int .i64 ((fp + ic) % (p : Int))] (0, 0) _ rfl (put3_heap HP.out.r (.int .i64 ((fp + ia) % (p : Int))) (.int .i64 ((fp + ib) % (p : Int))) (.int .i64 ((fp + ic) % (p : Int)))) Tryz.underlying64 rfl (by kernel_rfl)) rfl ?_
  refine ⟨by simp [cel3], (put3_below HP.out.bel (by omega) _ _ _).drew⟩

set_option maxRecDepth 100000 in
set_option maxHeartbeats 1000000 in
theorem pcells_6 (p b : Nat) (ia ib ic fp ap : Int) (w : World) (h3 : 3 ≤ p) (h4 : p ≤ 2147483647) (hp : w.cell? ⟨b, 0, none⟩ = some (.int .i64 p)) (hb : I64 ia ∧ I64 ib ∧ I64 ic ∧ I64 fp ∧ I64 ap) :
    Calls Tryz.prog 78 #[.pointer (some ⟨b, 0, none⟩), .agg #[.int .i64 6, .int .i64 ia, .int .i64 ib, .int .i64 ic], .int .i64 fp, .int .i64 ap] w (CeR p 6 ia ib ic fp ap w) := by
  have hmx : Tryz.prog.follows .mixedOrders = true := by kernel_rfl
  obtain ⟨hia, hib, hic, hfp, hap⟩ := hb
  have HP := hid (ceP_of p b 6 ia ib ic w hp)
  have HC0 : Hid (∀ W : World, W.cell? ⟨b, 0, none⟩ = some (.int .i64 p) → Calls Tryz.prog 52 #[.pointer (some ⟨b, 0, none⟩), .int .i64 fp, .int .i64 ia] W fun e w' => e = .returned (.int .i64 ((fp + ia) % (p : Int))) ∧ w' = W) := fun W h => add_any p b _ _ W h3 h4 h hfp.1 hfp.2 hia.1 hia.2
  have HC1 : Hid (∀ W : World, W.cell? ⟨b, 0, none⟩ = some (.int .i64 p) → Calls Tryz.prog 52 #[.pointer (some ⟨b, 0, none⟩), .int .i64 fp, .int .i64 ib] W fun e w' => e = .returned (.int .i64 ((fp + ib) % (p : Int))) ∧ w' = W) := fun W h => add_any p b _ _ W h3 h4 h hfp.1 hfp.2 hib.1 hib.2
  have HC2 : Hid (∀ W : World, W.cell? ⟨b, 0, none⟩ = some (.int .i64 p) → Calls Tryz.prog 52 #[.pointer (some ⟨b, 0, none⟩), .int .i64 fp, .int .i64 ic] W fun e w' => e = .returned (.int .i64 ((fp + ic) % (p : Int))) ∧ w' = W) := fun W h => add_any p b _ _ W h3 h4 h hfp.1 hfp.2 hic.1 hic.2
  obtain ⟨W0, hW0⟩ : ∃ W0, W0 = (w.alloc (.cells #[.int .i64 6, .int .i64 ia, .int .i64 ib, .int .i64 ic] 45)).alloc (.cells #[.int .i64 0, .int .i64 0, .int .i64 0] 64) := ⟨_, rfl⟩
  rw [← hW0] at HP
  have hpc := HP.out.hp
  have j1 := HP.out.i1
  have j2 := HP.out.i2
  have j3 := HP.out.i3
  have y0 : ∀ i, W0.frozen? ⟨w.heap.size + 1, i, none⟩ = false := (row3_of HP.out.r).frozen
  have z0 : W0.cell? ⟨w.heap.size + 1, 0, none⟩ = some (.int .i64 0) := by simp [World.cell?, HP.out.r]
  have z1 : W0.cell? ⟨w.heap.size + 1, 1, none⟩ = some (.int .i64 0) := by simp [World.cell?, HP.out.r]
  have z2 : W0.cell? ⟨w.heap.size + 1, 2, none⟩ = some (.int .i64 0) := by simp [World.cell?, HP.out.r]
  clear hp hia hib hic hfp hap h3 h4
  go_enter Tryz.func78, Tryz.ntmps78
  go_wp2_with fail
  rw [← hW0]
  clear hW0
  refine wp_region_still_tail 16 hmx (by kernel_rfl) ?_
  simp only [List.take_succ_cons, List.take_zero, List.drop_succ_cons, List.drop_zero]
  repeat still_step
  still_call (HC0.out _ hpc)
  repeat still_step
  still_call (HC1.out _ hpc)
  repeat still_step
  still_call (HC2.out _ hpc)
  repeat still_step
  refine wpStill_nil ?_
  go_wp2_with fail
  (try simp only [Exit.inBlock, Exit.then])
  refine bodyPost_ret (results_cell_row rfl _ _ (w.heap.size + 1) 64 #[.int .i64 ((fp + ia) % (p : Int)), .int .i64 ((fp + ib) % (p : Int)), .int .i64 ((fp + ic) % (p : Int))] (0, 0) _ rfl (put3_heap HP.out.r (.int .i64 ((fp + ia) % (p : Int))) (.int .i64 ((fp + ib) % (p : Int))) (.int .i64 ((fp + ic) % (p : Int)))) Tryz.underlying64 rfl (by kernel_rfl)) rfl ?_
  refine ⟨by simp [cel3], (put3_below HP.out.bel (by omega) _ _ _).drew⟩

set_option maxRecDepth 100000 in
set_option maxHeartbeats 1000000 in
theorem pcells_7 (p b : Nat) (ia ib ic fp ap : Int) (w : World) (h3 : 3 ≤ p) (h4 : p ≤ 2147483647) (hp : w.cell? ⟨b, 0, none⟩ = some (.int .i64 p)) (hb : I64 ia ∧ I64 ib ∧ I64 ic ∧ I64 fp ∧ I64 ap) :
    Calls Tryz.prog 78 #[.pointer (some ⟨b, 0, none⟩), .agg #[.int .i64 7, .int .i64 ia, .int .i64 ib, .int .i64 ic], .int .i64 fp, .int .i64 ap] w (CeR p 7 ia ib ic fp ap w) := by
  have hmx : Tryz.prog.follows .mixedOrders = true := by kernel_rfl
  obtain ⟨hia, hib, hic, hfp, hap⟩ := hb
  have HP := hid (ceP_of p b 7 ia ib ic w hp)
  have HC0 : Hid (∀ W : World, W.cell? ⟨b, 0, none⟩ = some (.int .i64 p) → Calls Tryz.prog 52 #[.pointer (some ⟨b, 0, none⟩), .int .i64 fp, .int .i64 ia] W fun e w' => e = .returned (.int .i64 ((fp + ia) % (p : Int))) ∧ w' = W) := fun W h => add_any p b _ _ W h3 h4 h hfp.1 hfp.2 hia.1 hia.2
  have HC1 : Hid (∀ W : World, W.cell? ⟨b, 0, none⟩ = some (.int .i64 p) → Calls Tryz.prog 52 #[.pointer (some ⟨b, 0, none⟩), .int .i64 fp, .int .i64 ib] W fun e w' => e = .returned (.int .i64 ((fp + ib) % (p : Int))) ∧ w' = W) := fun W h => add_any p b _ _ W h3 h4 h hfp.1 hfp.2 hib.1 hib.2
  obtain ⟨W0, hW0⟩ : ∃ W0, W0 = (w.alloc (.cells #[.int .i64 7, .int .i64 ia, .int .i64 ib, .int .i64 ic] 45)).alloc (.cells #[.int .i64 0, .int .i64 0, .int .i64 0] 64) := ⟨_, rfl⟩
  rw [← hW0] at HP
  have hpc := HP.out.hp
  have j1 := HP.out.i1
  have j2 := HP.out.i2
  have j3 := HP.out.i3
  have y0 : ∀ i, W0.frozen? ⟨w.heap.size + 1, i, none⟩ = false := (row3_of HP.out.r).frozen
  have z0 : W0.cell? ⟨w.heap.size + 1, 0, none⟩ = some (.int .i64 0) := by simp [World.cell?, HP.out.r]
  have z1 : W0.cell? ⟨w.heap.size + 1, 1, none⟩ = some (.int .i64 0) := by simp [World.cell?, HP.out.r]
  have z2 : W0.cell? ⟨w.heap.size + 1, 2, none⟩ = some (.int .i64 0) := by simp [World.cell?, HP.out.r]
  clear hp hia hib hic hfp hap h3 h4
  go_enter Tryz.func78, Tryz.ntmps78
  go_wp2_with fail
  rw [← hW0]
  clear hW0
  refine wp_region_still_tail 11 hmx (by kernel_rfl) ?_
  simp only [List.take_succ_cons, List.take_zero, List.drop_succ_cons, List.drop_zero]
  repeat still_step
  still_call (HC0.out _ hpc)
  repeat still_step
  still_call (HC1.out _ hpc)
  repeat still_step
  refine wpStill_nil ?_
  go_wp2_with fail
  (try simp only [Exit.inBlock, Exit.then])
  refine bodyPost_ret (results_cell_row rfl _ _ (w.heap.size + 1) 64 #[.int .i64 ((fp + ia) % (p : Int)), .int .i64 ((fp + ib) % (p : Int)), .int .i64 0] (0, 0) _ rfl (put3_heap HP.out.r (.int .i64 ((fp + ia) % (p : Int))) (.int .i64 ((fp + ib) % (p : Int))) (.int .i64 0)) Tryz.underlying64 rfl (by kernel_rfl)) rfl ?_
  refine ⟨by simp [cel3], (put3_below HP.out.bel (by omega) _ _ _).drew⟩

set_option maxRecDepth 100000 in
set_option maxHeartbeats 1000000 in
theorem pcells_5 (p b : Nat) (ia ib ic fp ap : Int) (w : World) (h3 : 3 ≤ p) (h4 : p ≤ 2147483647) (hp : w.cell? ⟨b, 0, none⟩ = some (.int .i64 p)) (hb : I64 ia ∧ I64 ib ∧ I64 ic ∧ I64 fp ∧ I64 ap) :
    Calls Tryz.prog 78 #[.pointer (some ⟨b, 0, none⟩), .agg #[.int .i64 5, .int .i64 ia, .int .i64 ib, .int .i64 ic], .int .i64 fp, .int .i64 ap] w (CeR p 5 ia ib ic fp ap w) := by
  obtain ⟨hia, hib, hic, hfp, hap⟩ := hb
  have HP := hid (ceP_of p b 5 ia ib ic w hp)
  have HC0 : Hid (∀ W : World, W.cell? ⟨b, 0, none⟩ = some (.int .i64 p) → Calls Tryz.prog 52 #[.pointer (some ⟨b, 0, none⟩), .int .i64 fp, .int .i64 ia] W fun e w' => e = .returned (.int .i64 ((fp + ia) % (p : Int))) ∧ w' = W) := fun W h => add_any p b _ _ W h3 h4 h hfp.1 hfp.2 hia.1 hia.2
  obtain ⟨W0, hW0⟩ : ∃ W0, W0 = (w.alloc (.cells #[.int .i64 5, .int .i64 ia, .int .i64 ib, .int .i64 ic] 45)).alloc (.cells #[.int .i64 0, .int .i64 0, .int .i64 0] 64) := ⟨_, rfl⟩
  rw [← hW0] at HP
  have hpc := HP.out.hp
  have j1 := HP.out.i1
  have j2 := HP.out.i2
  have j3 := HP.out.i3
  have y0 : ∀ i, W0.frozen? ⟨w.heap.size + 1, i, none⟩ = false := (row3_of HP.out.r).frozen
  have z0 : W0.cell? ⟨w.heap.size + 1, 0, none⟩ = some (.int .i64 0) := by simp [World.cell?, HP.out.r]
  have z1 : W0.cell? ⟨w.heap.size + 1, 1, none⟩ = some (.int .i64 0) := by simp [World.cell?, HP.out.r]
  have z2 : W0.cell? ⟨w.heap.size + 1, 2, none⟩ = some (.int .i64 0) := by simp [World.cell?, HP.out.r]
  clear hp hia hib hic hfp hap h3 h4
  go_enter Tryz.func78, Tryz.ntmps78
  go_wp2_with fail
  rw [← hW0]
  clear hW0
  refine (HC0.out _ hpc).mono ?_
  rintro e w2 ⟨rfl, hw2⟩
  rw [hw2]
  clear hw2 w2
  go_wp2_with fail
  (try simp only [Exit.inBlock, Exit.then])
  refine bodyPost_ret (results_cell_row rfl _ _ (w.heap.size + 1) 64 #[.int .i64 ((fp + ia) % (p : Int)), .int .i64 0, .int .i64 0] (0, 0) _ rfl (put3_heap HP.out.r (.int .i64 ((fp + ia) % (p : Int))) (.int .i64 0) (.int .i64 0)) Tryz.underlying64 rfl (by kernel_rfl)) rfl ?_
  refine ⟨by simp [cel3], put3_below HP.out.bel (by omega) _ _ _⟩

set_option maxRecDepth 100000 in
set_option maxHeartbeats 1000000 in
theorem pcells_9 (p b : Nat) (ia ib ic fp ap : Int) (w : World) (h3 : 3 ≤ p) (h4 : p ≤ 2147483647) (hp : w.cell? ⟨b, 0, none⟩ = some (.int .i64 p)) (hb : I64 ia ∧ I64 ib ∧ I64 ic ∧ I64 fp ∧ I64 ap) :
    Calls Tryz.prog 78 #[.pointer (some ⟨b, 0, none⟩), .agg #[.int .i64 9, .int .i64 ia, .int .i64 ib, .int .i64 ic], .int .i64 fp, .int .i64 ap] w (CeR p 9 ia ib ic fp ap w) := by
  obtain ⟨hia, hib, hic, hfp, hap⟩ := hb
  have HP := hid (ceP_of p b 9 ia ib ic w hp)
  have HC0 : Hid (∀ W : World, W.cell? ⟨b, 0, none⟩ = some (.int .i64 p) → Calls Tryz.prog 52 #[.pointer (some ⟨b, 0, none⟩), .int .i64 fp, .int .i64 ia] W fun e w' => e = .returned (.int .i64 ((fp + ia) % (p : Int))) ∧ w' = W) := fun W h => add_any p b _ _ W h3 h4 h hfp.1 hfp.2 hia.1 hia.2
  obtain ⟨W0, hW0⟩ : ∃ W0, W0 = (w.alloc (.cells #[.int .i64 9, .int .i64 ia, .int .i64 ib, .int .i64 ic] 45)).alloc (.cells #[.int .i64 0, .int .i64 0, .int .i64 0] 64) := ⟨_, rfl⟩
  rw [← hW0] at HP
  have hpc := HP.out.hp
  have j1 := HP.out.i1
  have j2 := HP.out.i2
  have j3 := HP.out.i3
  have y0 : ∀ i, W0.frozen? ⟨w.heap.size + 1, i, none⟩ = false := (row3_of HP.out.r).frozen
  have z0 : W0.cell? ⟨w.heap.size + 1, 0, none⟩ = some (.int .i64 0) := by simp [World.cell?, HP.out.r]
  have z1 : W0.cell? ⟨w.heap.size + 1, 1, none⟩ = some (.int .i64 0) := by simp [World.cell?, HP.out.r]
  have z2 : W0.cell? ⟨w.heap.size + 1, 2, none⟩ = some (.int .i64 0) := by simp [World.cell?, HP.out.r]
  clear hp hia hib hic hfp hap h3 h4
  go_enter Tryz.func78, Tryz.ntmps78
  go_wp2_with fail
  rw [← hW0]
  clear hW0
  refine (HC0.out _ hpc).mono ?_
  rintro e w2 ⟨rfl, hw2⟩
  rw [hw2]
  clear hw2 w2
  go_wp2_with fail
  (try simp only [Exit.inBlock, Exit.then])
  refine bodyPost_ret (results_cell_row rfl _ _ (w.heap.size + 1) 64 #[.int .i64 ((fp + ia) % (p : Int)), .int .i64 0, .int .i64 0] (0, 0) _ rfl (put3_heap HP.out.r (.int .i64 ((fp + ia) % (p : Int))) (.int .i64 0) (.int .i64 0)) Tryz.underlying64 rfl (by kernel_rfl)) rfl ?_
  refine ⟨by simp [cel3], put3_below HP.out.bel (by omega) _ _ _⟩

set_option maxRecDepth 100000 in
set_option maxHeartbeats 1000000 in
theorem pcells_12 (p b : Nat) (ia ib ic fp ap : Int) (w : World) (h3 : 3 ≤ p) (h4 : p ≤ 2147483647) (hp : w.cell? ⟨b, 0, none⟩ = some (.int .i64 p)) (hb : I64 ia ∧ I64 ib ∧ I64 ic ∧ I64 fp ∧ I64 ap) :
    Calls Tryz.prog 78 #[.pointer (some ⟨b, 0, none⟩), .agg #[.int .i64 12, .int .i64 ia, .int .i64 ib, .int .i64 ic], .int .i64 fp, .int .i64 ap] w (CeR p 12 ia ib ic fp ap w) := by
  obtain ⟨hia, hib, hic, hfp, hap⟩ := hb
  have HP := hid (ceP_of p b 12 ia ib ic w hp)
  have HC0 : Hid (∀ W : World, W.cell? ⟨b, 0, none⟩ = some (.int .i64 p) → Calls Tryz.prog 52 #[.pointer (some ⟨b, 0, none⟩), .int .i64 fp, .int .i64 ia] W fun e w' => e = .returned (.int .i64 ((fp + ia) % (p : Int))) ∧ w' = W) := fun W h => add_any p b _ _ W h3 h4 h hfp.1 hfp.2 hia.1 hia.2
  obtain ⟨W0, hW0⟩ : ∃ W0, W0 = (w.alloc (.cells #[.int .i64 12, .int .i64 ia, .int .i64 ib, .int .i64 ic] 45)).alloc (.cells #[.int .i64 0, .int .i64 0, .int .i64 0] 64) := ⟨_, rfl⟩
  rw [← hW0] at HP
  have hpc := HP.out.hp
  have j1 := HP.out.i1
  have j2 := HP.out.i2
  have j3 := HP.out.i3
  have y0 : ∀ i, W0.frozen? ⟨w.heap.size + 1, i, none⟩ = false := (row3_of HP.out.r).frozen
  have z0 : W0.cell? ⟨w.heap.size + 1, 0, none⟩ = some (.int .i64 0) := by simp [World.cell?, HP.out.r]
  have z1 : W0.cell? ⟨w.heap.size + 1, 1, none⟩ = some (.int .i64 0) := by simp [World.cell?, HP.out.r]
  have z2 : W0.cell? ⟨w.heap.size + 1, 2, none⟩ = some (.int .i64 0) := by simp [World.cell?, HP.out.r]
  clear hp hia hib hic hfp hap h3 h4
  go_enter Tryz.func78, Tryz.ntmps78
  go_wp2_with fail
  rw [← hW0]
  clear hW0
  refine (HC0.out _ hpc).mono ?_
  rintro e w2 ⟨rfl, hw2⟩
  rw [hw2]
  clear hw2 w2
  go_wp2_with fail
  (try simp only [Exit.inBlock, Exit.then])
  refine bodyPost_ret (results_cell_row rfl _ _ (w.heap.size + 1) 64 #[.int .i64 ((fp + ia) % (p : Int)), .int .i64 0, .int .i64 0] (0, 0) _ rfl (put3_heap HP.out.r (.int .i64 ((fp + ia) % (p : Int))) (.int .i64 0) (.int .i64 0)) Tryz.underlying64 rfl (by kernel_rfl)) rfl ?_
  refine ⟨by simp [cel3], put3_below HP.out.bel (by omega) _ _ _⟩

set_option maxRecDepth 100000 in
set_option maxHeartbeats 1000000 in
theorem pcells_0 (p b : Nat) (ia ib ic fp ap : Int) (w : World) (h3 : 3 ≤ p) (h4 : p ≤ 2147483647) (hp : w.cell? ⟨b, 0, none⟩ = some (.int .i64 p)) (hb : I64 ia ∧ I64 ib ∧ I64 ic ∧ I64 fp ∧ I64 ap) :
    Calls Tryz.prog 78 #[.pointer (some ⟨b, 0, none⟩), .agg #[.int .i64 0, .int .i64 ia, .int .i64 ib, .int .i64 ic], .int .i64 fp, .int .i64 ap] w (CeR p 0 ia ib ic fp ap w) := by
  obtain ⟨hia, hib, hic, hfp, hap⟩ := hb
  have HP := hid (ceP_of p b 0 ia ib ic w hp)
  have HC0 : Hid (∀ W : World, W.cell? ⟨b, 0, none⟩ = some (.int .i64 p) → Calls Tryz.prog 52 #[.pointer (some ⟨b, 0, none⟩), .int .i64 fp, .int .i64 ia] W fun e w' => e = .returned (.int .i64 ((fp + ia) % (p : Int))) ∧ w' = W) := fun W h => add_any p b _ _ W h3 h4 h hfp.1 hfp.2 hia.1 hia.2
  obtain ⟨W0, hW0⟩ : ∃ W0, W0 = (w.alloc (.cells #[.int .i64 0, .int .i64 ia, .int .i64 ib, .int .i64 ic] 45)).alloc (.cells #[.int .i64 0, .int .i64 0, .int .i64 0] 64) := ⟨_, rfl⟩
  rw [← hW0] at HP
  have hpc := HP.out.hp
  have j1 := HP.out.i1
  have j2 := HP.out.i2
  have j3 := HP.out.i3
  have y0 : ∀ i, W0.frozen? ⟨w.heap.size + 1, i, none⟩ = false := (row3_of HP.out.r).frozen
  have z0 : W0.cell? ⟨w.heap.size + 1, 0, none⟩ = some (.int .i64 0) := by simp [World.cell?, HP.out.r]
  have z1 : W0.cell? ⟨w.heap.size + 1, 1, none⟩ = some (.int .i64 0) := by simp [World.cell?, HP.out.r]
  have z2 : W0.cell? ⟨w.heap.size + 1, 2, none⟩ = some (.int .i64 0) := by simp [World.cell?, HP.out.r]
  clear hp hia hib hic hfp hap h3 h4
  go_enter Tryz.func78, Tryz.ntmps78
  go_wp2_with fail
  rw [← hW0]
  clear hW0
  refine (HC0.out _ hpc).mono ?_
  rintro e w2 ⟨rfl, hw2⟩
  rw [hw2]
  clear hw2 w2
  go_wp2_with fail
  (try simp only [Exit.inBlock, Exit.then])
  refine bodyPost_ret (results_cell_row rfl _ _ (w.heap.size + 1) 64 #[.int .i64 ((fp + ia) % (p : Int)), .int .i64 0, .int .i64 0] (0, 0) _ rfl (put3_heap HP.out.r (.int .i64 ((fp + ia) % (p : Int))) (.int .i64 0) (.int .i64 0)) Tryz.underlying64 rfl (by kernel_rfl)) rfl ?_
  refine ⟨by simp [cel3], put3_below HP.out.bel (by omega) _ _ _⟩

set_option maxRecDepth 100000 in
set_option maxHeartbeats 1000000 in
theorem pcells_10 (p b : Nat) (ia ib ic fp ap : Int) (w : World) (h3 : 3 ≤ p) (h4 : p ≤ 2147483647) (hp : w.cell? ⟨b, 0, none⟩ = some (.int .i64 p)) (hb : I64 ia ∧ I64 ib ∧ I64 ic ∧ I64 fp ∧ I64 ap) :
    Calls Tryz.prog 78 #[.pointer (some ⟨b, 0, none⟩), .agg #[.int .i64 10, .int .i64 ia, .int .i64 ib, .int .i64 ic], .int .i64 fp, .int .i64 ap] w (CeR p 10 ia ib ic fp ap w) := by
  obtain ⟨hia, hib, hic, hfp, hap⟩ := hb
  have HP := hid (ceP_of p b 10 ia ib ic w hp)
  have HC0 : Hid (∀ W : World, W.cell? ⟨b, 0, none⟩ = some (.int .i64 p) → Calls Tryz.prog 33 #[.pointer (some ⟨b, 0, none⟩), .int .i64 ap] W fun e w' => e = .returned (.int .i64 (ap % (p : Int))) ∧ w' = W) := fun W h => of_any p b _ W h3 h4 h (hap.1) (hap.2)
  have HC1 : Hid (∀ W : World, W.cell? ⟨b, 0, none⟩ = some (.int .i64 p) → Calls Tryz.prog 52 #[.pointer (some ⟨b, 0, none⟩), .int .i64 ap, .int .i64 1] W fun e w' => e = .returned (.int .i64 ((ap + 1) % (p : Int))) ∧ w' = W) := fun W h => add_any p b _ _ W h3 h4 h hap.1 hap.2 (by decide) (by decide)
  obtain ⟨W0, hW0⟩ : ∃ W0, W0 = (w.alloc (.cells #[.int .i64 10, .int .i64 ia, .int .i64 ib, .int .i64 ic] 45)).alloc (.cells #[.int .i64 0, .int .i64 0, .int .i64 0] 64) := ⟨_, rfl⟩
  rw [← hW0] at HP
  have hpc := HP.out.hp
  have j1 := HP.out.i1
  have j2 := HP.out.i2
  have j3 := HP.out.i3
  have y0 : ∀ i, W0.frozen? ⟨w.heap.size + 1, i, none⟩ = false := (row3_of HP.out.r).frozen
  have z0 : W0.cell? ⟨w.heap.size + 1, 0, none⟩ = some (.int .i64 0) := by simp [World.cell?, HP.out.r]
  have z1 : W0.cell? ⟨w.heap.size + 1, 1, none⟩ = some (.int .i64 0) := by simp [World.cell?, HP.out.r]
  have z2 : W0.cell? ⟨w.heap.size + 1, 2, none⟩ = some (.int .i64 0) := by simp [World.cell?, HP.out.r]
  clear hp hia hib hic hfp hap h3 h4
  go_enter Tryz.func78, Tryz.ntmps78
  go_wp2_with fail
  rw [← hW0]
  clear hW0
  refine (HC0.out _ hpc).mono ?_
  rintro e w2 ⟨rfl, hw2⟩
  rw [hw2]
  clear hw2 w2
  go_wp2_with fail
  refine (HC1.out _ hpc).mono ?_
  rintro e w2 ⟨rfl, hw2⟩
  rw [hw2]
  clear hw2 w2
  go_wp2_with fail
  (try simp only [Exit.inBlock, Exit.then])
  refine bodyPost_ret (results_cell_row rfl _ _ (w.heap.size + 1) 64 #[.int .i64 (ap % (p : Int)), .int .i64 ((ap + 1) % (p : Int)), .int .i64 0] (0, 0) _ rfl (put3_heap HP.out.r (.int .i64 (ap % (p : Int))) (.int .i64 ((ap + 1) % (p : Int))) (.int .i64 0)) Tryz.underlying64 rfl (by kernel_rfl)) rfl ?_
  refine ⟨by simp [cel3], put3_below HP.out.bel (by omega) _ _ _⟩

set_option maxRecDepth 100000 in
set_option maxHeartbeats 1000000 in
theorem pcells_11 (p b : Nat) (ia ib ic fp ap : Int) (w : World) (h3 : 3 ≤ p) (h4 : p ≤ 2147483647) (hp : w.cell? ⟨b, 0, none⟩ = some (.int .i64 p)) (hb : I64 ia ∧ I64 ib ∧ I64 ic ∧ I64 fp ∧ I64 ap) :
    Calls Tryz.prog 78 #[.pointer (some ⟨b, 0, none⟩), .agg #[.int .i64 11, .int .i64 ia, .int .i64 ib, .int .i64 ic], .int .i64 fp, .int .i64 ap] w (CeR p 11 ia ib ic fp ap w) := by
  have hmx : Tryz.prog.follows .mixedOrders = true := by kernel_rfl
  obtain ⟨hia, hib, hic, hfp, hap⟩ := hb
  have HP := hid (ceP_of p b 11 ia ib ic w hp)
  have HC0 : Hid (∀ W : World, W.cell? ⟨b, 0, none⟩ = some (.int .i64 p) → Calls Tryz.prog 85 #[.pointer (some ⟨b, 0, none⟩), .int .i64 fp, .int .i64 2] W fun e w' => e = .returned (.int .i64 ((fp - 2) % (p : Int))) ∧ w' = W) := fun W h => sub_any p b _ _ W h3 h4 h hfp.1 hfp.2 (by decide) (by decide)
  have HC1 : Hid (∀ W : World, W.cell? ⟨b, 0, none⟩ = some (.int .i64 p) → Calls Tryz.prog 85 #[.pointer (some ⟨b, 0, none⟩), .int .i64 fp, .int .i64 1] W fun e w' => e = .returned (.int .i64 ((fp - 1) % (p : Int))) ∧ w' = W) := fun W h => sub_any p b _ _ W h3 h4 h hfp.1 hfp.2 (by decide) (by decide)
  have HC2 : Hid (∀ W : World, W.cell? ⟨b, 0, none⟩ = some (.int .i64 p) → Calls Tryz.prog 52 #[.pointer (some ⟨b, 0, none⟩), .int .i64 fp, .int .i64 ia] W fun e w' => e = .returned (.int .i64 ((fp + ia) % (p : Int))) ∧ w' = W) := fun W h => add_any p b _ _ W h3 h4 h hfp.1 hfp.2 hia.1 hia.2
  obtain ⟨W0, hW0⟩ : ∃ W0, W0 = (w.alloc (.cells #[.int .i64 11, .int .i64 ia, .int .i64 ib, .int .i64 ic] 45)).alloc (.cells #[.int .i64 0, .int .i64 0, .int .i64 0] 64) := ⟨_, rfl⟩
  rw [← hW0] at HP
  have hpc := HP.out.hp
  have j1 := HP.out.i1
  have j2 := HP.out.i2
  have j3 := HP.out.i3
  have y0 : ∀ i, W0.frozen? ⟨w.heap.size + 1, i, none⟩ = false := (row3_of HP.out.r).frozen
  have z0 : W0.cell? ⟨w.heap.size + 1, 0, none⟩ = some (.int .i64 0) := by simp [World.cell?, HP.out.r]
  have z1 : W0.cell? ⟨w.heap.size + 1, 1, none⟩ = some (.int .i64 0) := by simp [World.cell?, HP.out.r]
  have z2 : W0.cell? ⟨w.heap.size + 1, 2, none⟩ = some (.int .i64 0) := by simp [World.cell?, HP.out.r]
  clear hp hia hib hic hfp hap h3 h4
  go_enter Tryz.func78, Tryz.ntmps78
  go_wp2_with fail
  rw [← hW0]
  clear hW0
  refine wp_region_still_tail 12 hmx (by kernel_rfl) ?_
  simp only [List.take_succ_cons, List.take_zero, List.drop_succ_cons, List.drop_zero]
  repeat still_step
  still_call (HC0.out _ hpc)
  repeat still_step
  still_call (HC1.out _ hpc)
  repeat still_step
  still_call (HC2.out _ hpc)
  repeat still_step
  refine wpStill_nil ?_
  go_wp2_with fail
  (try simp only [Exit.inBlock, Exit.then])
  refine bodyPost_ret (results_cell_row rfl _ _ (w.heap.size + 1) 64 #[.int .i64 ((fp - 2) % (p : Int)), .int .i64 ((fp - 1) % (p : Int)), .int .i64 ((fp + ia) % (p : Int))] (0, 0) _ rfl (put3_heap HP.out.r (.int .i64 ((fp - 2) % (p : Int))) (.int .i64 ((fp - 1) % (p : Int))) (.int .i64 ((fp + ia) % (p : Int)))) Tryz.underlying64 rfl (by kernel_rfl)) rfl ?_
  refine ⟨by simp [cel3], (put3_below HP.out.bel (by omega) _ _ _).drew⟩

set_option maxRecDepth 100000 in
set_option maxHeartbeats 1000000 in
theorem pcells_13 (p b : Nat) (ia ib ic fp ap : Int) (w : World) (h3 : 3 ≤ p) (h4 : p ≤ 2147483647) (hp : w.cell? ⟨b, 0, none⟩ = some (.int .i64 p)) (hb : I64 ia ∧ I64 ib ∧ I64 ic ∧ I64 fp ∧ I64 ap) :
    Calls Tryz.prog 78 #[.pointer (some ⟨b, 0, none⟩), .agg #[.int .i64 13, .int .i64 ia, .int .i64 ib, .int .i64 ic], .int .i64 fp, .int .i64 ap] w (CeR p 13 ia ib ic fp ap w) := by
  have hmx : Tryz.prog.follows .mixedOrders = true := by kernel_rfl
  obtain ⟨hia, hib, hic, hfp, hap⟩ := hb
  obtain ⟨m2, hm2⟩ : ∃ m2, m2 = (ap + 2) % (p : Int) := ⟨_, rfl⟩
  have HM2 := hid hm2
  have hma : I64 m2 := by rw [hm2]; have := emod_bounds (ap + 2) p h3; exact ⟨by omega, by omega⟩
  have HP := hid (ceP_of p b 13 ia ib ic w hp)
  have HC0 : Hid (∀ W : World, W.cell? ⟨b, 0, none⟩ = some (.int .i64 p) → Calls Tryz.prog 52 #[.pointer (some ⟨b, 0, none⟩), .int .i64 fp, .int .i64 ia] W fun e w' => e = .returned (.int .i64 ((fp + ia) % (p : Int))) ∧ w' = W) := fun W h => add_any p b _ _ W h3 h4 h hfp.1 hfp.2 hia.1 hia.2
  have HC1 : Hid (∀ W : World, W.cell? ⟨b, 0, none⟩ = some (.int .i64 p) → Calls Tryz.prog 52 #[.pointer (some ⟨b, 0, none⟩), .int .i64 ap, .int .i64 2] W fun e w' => e = .returned (.int .i64 m2) ∧ w' = W) := fun W h => by rw [hm2]; exact add_any p b _ _ W h3 h4 h hap.1 hap.2 (by decide) (by decide)
  have HC2 : Hid (∀ W : World, W.cell? ⟨b, 0, none⟩ = some (.int .i64 p) → Calls Tryz.prog 52 #[.pointer (some ⟨b, 0, none⟩), .int .i64 m2, .int .i64 ib] W fun e w' => e = .returned (.int .i64 ((m2 + ib) % (p : Int))) ∧ w' = W) := fun W h => add_any p b _ _ W h3 h4 h hma.1 hma.2 hib.1 hib.2
  obtain ⟨W0, hW0⟩ : ∃ W0, W0 = (w.alloc (.cells #[.int .i64 13, .int .i64 ia, .int .i64 ib, .int .i64 ic] 45)).alloc (.cells #[.int .i64 0, .int .i64 0, .int .i64 0] 64) := ⟨_, rfl⟩
  rw [← hW0] at HP
  have hpc := HP.out.hp
  have j1 := HP.out.i1
  have j2 := HP.out.i2
  have j3 := HP.out.i3
  have y0 : ∀ i, W0.frozen? ⟨w.heap.size + 1, i, none⟩ = false := (row3_of HP.out.r).frozen
  have z0 : W0.cell? ⟨w.heap.size + 1, 0, none⟩ = some (.int .i64 0) := by simp [World.cell?, HP.out.r]
  have z1 : W0.cell? ⟨w.heap.size + 1, 1, none⟩ = some (.int .i64 0) := by simp [World.cell?, HP.out.r]
  have z2 : W0.cell? ⟨w.heap.size + 1, 2, none⟩ = some (.int .i64 0) := by simp [World.cell?, HP.out.r]
  clear hp hia hib hic hfp hap h3 h4 hma hm2
  go_enter Tryz.func78, Tryz.ntmps78
  go_wp2_with fail
  rw [← hW0]
  clear hW0
  refine wp_region_still_tail 13 hmx (by kernel_rfl) ?_
  simp only [List.take_succ_cons, List.take_zero, List.drop_succ_cons, List.drop_zero]
  repeat still_step
  still_call (HC0.out _ hpc)
  repeat still_step
  still_call (HC1.out _ hpc)
  repeat still_step
  still_call (HC2.out _ hpc)
  repeat still_step
  refine wpStill_nil ?_
  go_wp2_with fail
  (try simp only [Exit.inBlock, Exit.then])
  refine bodyPost_ret (results_cell_row rfl _ _ (w.heap.size + 1) 64 #[.int .i64 ((fp + ia) % (p : Int)), .int .i64 ((m2 + ib) % (p : Int)), .int .i64 0] (0, 0) _ rfl (put3_heap HP.out.r (.int .i64 ((fp + ia) % (p : Int))) (.int .i64 ((m2 + ib) % (p : Int))) (.int .i64 0)) Tryz.underlying64 rfl (by kernel_rfl)) rfl ?_
  refine ⟨by rw [HM2.out]; simp [cel3], (put3_below HP.out.bel (by omega) _ _ _).drew⟩

set_option maxRecDepth 100000 in
set_option maxHeartbeats 1000000 in
theorem pcells_8 (p b : Nat) (ia ib ic fp ap : Int) (w : World) (hp : w.cell? ⟨b, 0, none⟩ = some (.int .i64 p)) :
    Calls Tryz.prog 78 #[.pointer (some ⟨b, 0, none⟩), .agg #[.int .i64 8, .int .i64 ia, .int .i64 ib, .int .i64 ic], .int .i64 fp, .int .i64 ap] w (CeR p 8 ia ib ic fp ap w) := by
  have HP := hid (ceP_of p b 8 ia ib ic w hp)
  obtain ⟨W0, hW0⟩ : ∃ W0, W0 = (w.alloc (.cells #[.int .i64 8, .int .i64 ia, .int .i64 ib, .int .i64 ic] 45)).alloc (.cells #[.int .i64 0, .int .i64 0, .int .i64 0] 64) := ⟨_, rfl⟩
  rw [← hW0] at HP
  clear hp
  go_enter Tryz.func78, Tryz.ntmps78
  go_wp2_with fail
  rw [← hW0]
  clear hW0
  (try simp only [Exit.inBlock, Exit.then])
  refine bodyPost_ret (results_cell_row rfl _ _ (w.heap.size + 1) 64 #[.int .i64 0, .int .i64 0, .int .i64 0] (0, 0) _ rfl HP.out.r Tryz.underlying64 rfl (by kernel_rfl)) rfl ?_
  exact ⟨by simp [cel3], HP.out.bel⟩

set_option maxRecDepth 100000 in
set_option maxHeartbeats 1000000 in
theorem pcells_x (p b : Nat) (op : Int) (ia ib ic fp ap : Int) (w : World) (hp : w.cell? ⟨b, 0, none⟩ = some (.int .i64 p)) (hno : op ≠ 0 ∧ op ≠ 1 ∧ op ≠ 2 ∧ op ≠ 3 ∧ op ≠ 4 ∧ op ≠ 5 ∧ op ≠ 6 ∧ op ≠ 7 ∧ op ≠ 9 ∧ op ≠ 10 ∧ op ≠ 11 ∧ op ≠ 12 ∧ op ≠ 13) :
    Calls Tryz.prog 78 #[.pointer (some ⟨b, 0, none⟩), .agg #[.int .i64 op, .int .i64 ia, .int .i64 ib, .int .i64 ic], .int .i64 fp, .int .i64 ap] w (CeR p op ia ib ic fp ap w) := by
  have q0 : (op == 0) = false := by rw [beq_eq_false_iff_ne]; omega
  have q1 : (op == 1) = false := by rw [beq_eq_false_iff_ne]; omega
  have q2 : (op == 2) = false := by rw [beq_eq_false_iff_ne]; omega
  have q3 : (op == 3) = false := by rw [beq_eq_false_iff_ne]; omega
  have q4 : (op == 4) = false := by rw [beq_eq_false_iff_ne]; omega
  have q5 : (op == 5) = false := by rw [beq_eq_false_iff_ne]; omega
  have q6 : (op == 6) = false := by rw [beq_eq_false_iff_ne]; omega
  have q7 : (op == 7) = false := by rw [beq_eq_false_iff_ne]; omega
  have q9 : (op == 9) = false := by rw [beq_eq_false_iff_ne]; omega
  have q10 : (op == 10) = false := by rw [beq_eq_false_iff_ne]; omega
  have q11 : (op == 11) = false := by rw [beq_eq_false_iff_ne]; omega
  have q12 : (op == 12) = false := by rw [beq_eq_false_iff_ne]; omega
  have q13 : (op == 13) = false := by rw [beq_eq_false_iff_ne]; omega
  have HP := hid (ceP_of p b op ia ib ic w hp)
  obtain ⟨W0, hW0⟩ : ∃ W0, W0 = (w.alloc (.cells #[.int .i64 op, .int .i64 ia, .int .i64 ib, .int .i64 ic] 45)).alloc (.cells #[.int .i64 0, .int .i64 0, .int .i64 0] 64) := ⟨_, rfl⟩
  rw [← hW0] at HP
  clear hp
  go_enter Tryz.func78, Tryz.ntmps78
  go_wp2_with fail
  rw [← hW0]
  clear hW0
  (try simp only [Exit.inBlock, Exit.then])
  refine bodyPost_ret (results_cell_row rfl _ _ (w.heap.size + 1) 64 #[.int .i64 0, .int .i64 0, .int .i64 0] (0, 0) _ rfl HP.out.r Tryz.underlying64 rfl (by kernel_rfl)) rfl ?_
  exact ⟨by simp [cel3, hno], HP.out.bel⟩


end Go.Proofs.YtdpdmgmeieijaaaGreatDoor

namespace Go.Proofs.YtdpdmgmeieijaaaGreatDoor
open Go.RowKit Go.Maps

section
variable {P : Program} {ops : Array Oper} {Q : Exit → Act → World → Prop} {md : Region.Mode} {S : World → Prop}
theorem drop_atW {i : Nat} {oi : Oper} {rest : List Oper} (hl : ops.toList.drop i = oi :: rest) : ops[i]? = some oi := by
  have := congrArg (fun l => l[0]?) hl
  simpa [List.getElem?_drop] using this
theorem wpAnyH_takeW {i : Nat} {oi : Oper} {rest : List Oper} {v : Value} {fuel : Nat} {listed : Array Bool} {a : Act} {w : World} (hl : ops.toList.drop i = oi :: rest)
    (hs : Region.noSelect ops = true) (hf : Region.free md ops listed i = true) (hr : (Region.ready md ops listed).contains i = true)
    (hQ : ∀ c a w, Q (.panic c) (a.put oi.dst v) w → Q (.panic c) a w) (hw : Region.wanted oi (yielded ops a.tmps) = true) (hy : ∀ w, S w → (execOp a.eval oi).run P w = .ok (.value v) w) (hS : S w)
    (h : wpAnyH P md ops Q S fuel (listed.setIfInBounds i true) (a.put oi.dst v) w) : wpAnyH P md ops Q S (fuel + 1) listed a w :=
  wpAnyH_take (drop_atW hl) hs hf hr hQ (Or.inl ⟨hw, hy⟩) hS h
theorem AllReadyH.consW {fuel : Nat} {listed : Array Bool} {a : Act} {w : World} {i : Nat} {o : Oper} {rest : List Oper} {rs : List Nat} (hl : ops.toList.drop i = o :: rest)
    (h : ∀ K' : Act → World → Prop, Shut (∀ a w, S w → (S w → wpAnyH P md ops Q S fuel (listed.setIfInBounds i true) a w) → K' a w) → if Region.wanted o (yielded ops a.tmps) = true then Oper.wp P o a w K' Q else K' (a.put o.dst undef) w)
    (hs : AllReadyH P md ops Q S fuel listed a w rs) : AllReadyH P md ops Q S fuel listed a w (i :: rs) := AllReadyH.cons (drop_atW hl) h hs
end

/-- a telling: what is wrong, and the cells behind it -/
def tel (cs : List (Int × Int)) (x y : Int) : Int × List (Int × Int) := if 0 ≤ finz cs x ∧ cvl cs x ≠ y then (7, cs) else (0, tld cs x y)
/-- what work comes to: 0, 7 or 10, and the cells -/
def wrk (p : Nat) (op ib : Int) (x0 x1 x2 : Int) (n : Rg) (cs : List (Int × Int)) : Int × List (Int × Int) :=
  if op = 1 ∨ op = 2 ∨ op = 3 ∨ op = 6 then (if ¬ 0 ≤ finz cs x0 then (10, cs) else if ¬ 0 ≤ finz cs x1 then (10, cs) else tel cs x2 (rkn p op (cvl cs x0) (cvl cs x1)))
  else if op = 4 then (if ¬ 0 ≤ finz cs x0 then (10, cs) else if ¬ 0 ≤ finz cs x1 then (10, cs) else if cvl cs x1 = 0 then (7, cs) else tel cs x2 (rkn p 4 (cvl cs x0) (cvl cs x1)))
  else if op = 5 then tel cs x0 (ib % (p : Int))
  else if op = 7 then (if ¬ 0 ≤ finz cs x0 then (10, cs) else if ¬ 0 ≤ finz cs x1 then (10, cs) else if cvl cs x0 = cvl cs x1 then (0, cs) else (7, cs))
  else if op = 10 then (if (tel cs x0 n.fp).1 ≠ 0 then tel cs x0 n.fp else tel (tel cs x0 n.fp).2 x1 ((n.pc + 1) % (p : Int)))
  else if op = 11 then (if ¬ 0 ≤ finz cs x0 then (10, cs) else if ¬ 0 ≤ finz cs x1 then (10, cs) else if ¬ 0 ≤ finz cs x2 then (10, cs) else (0, cs))
  else if op = 12 then tel cs x0 n.rv
  else if op = 13 then (if ¬ 0 ≤ finz cs x0 then (10, cs) else tel cs x1 (cvl cs x0))
  else if op = 9 ∨ op = 0 then (if ¬ 0 ≤ finz cs x0 then (10, cs) else (0, cs))
  else if op = 8 then (0, cs)
  else (7, cs)
/-- how work ends -/
def WpR (B nB : Nat) (r : Int × List (Int × Int)) (w : World) (e : Ending) (w' : World) : Prop := w.grownBy w' (some B) ∧ ((r.1 = 0 ∧ e = .returned (.tuple #[]) ∧ MapAt w' B nB r.2) ∨ (r.1 = 7 ∧ e = pnc 88) ∨ (r.1 = 10 ∧ e = pnc 87))
theorem MapAt.mono {w : World} {B n m : Nat} {cs : List (Int × Int)} (h : MapAt w B n cs) (e : n ≤ m) : MapAt w B m cs := by
  obtain ⟨D, h1, h2⟩ := h
  exact ⟨D, h1.mono e, h2⟩
/-- tell, whatever comes of it -/
theorem ptell_any (R b B nB : Nat) (aL : Option Addr) (nL cL : Nat) (n : Rg) (cs : List (Int × Int)) (x y : Int) (w : World) (hR : RnAt w R b B aL nL cL n) (hM : MapAt w B nB cs) (hnB : nB < maxLen) (hx : I64 x) (hy : I64 y) :
    Calls Tryz.prog 106 #[.pointer (some ⟨R, 0, none⟩), .int .i64 x, .int .i64 y] w (WpR B (nB + 1) (tel cs x y) w) := by
  by_cases h : 0 ≤ finz cs x ∧ cvl cs x ≠ y
  · refine (ptell_no R b B nB aL nL cL n cs x y w hR hM hx h.1 h.2).mono ?_
    rintro e w' ⟨rfl, rfl⟩
    exact ⟨⟨rfl, rfl, rfl, Nat.le_refl _, fun _ _ _ => rfl⟩, .inr (.inl ⟨by unfold tel; rw [if_pos h], rfl⟩)⟩
  · refine (ptell_yes R b B nB aL nL cL n cs x y w hR hM hnB hx hy (fun h1 => Decidable.byContradiction fun h2 => h ⟨h1, h2⟩)).mono ?_
    rintro e w' ⟨rfl, h1, h2⟩
    exact ⟨h2, .inl ⟨by unfold tel; rw [if_neg h], rfl, by unfold tel; rw [if_neg h]; exact h1⟩⟩
/-- what stands in work -/
structure WoP (p R b B nB : Nat) (aL : Option Addr) (nL cL : Nat) (op ia ib ic x0 x1 x2 : Int) (n : Rg) (cs : List (Int × Int)) (w W : World) : Prop where
  rn : RnAt W R b B aL nL cL n
  mp : MapAt W B nB cs
  hp : W.cell? ⟨b, 0, none⟩ = some (.int .i64 p)
  i : W.heap[w.heap.size]? = some (.cells #[.int .i64 op, .int .i64 ia, .int .i64 ib, .int .i64 ic] 45 (0, 0))
  r : W.heap[w.heap.size + 1]? = some (.cells #[.int .i64 x0, .int .i64 x1, .int .i64 x2] 64 (0, 0))
  bel : Below w.heap.size w W
theorem woP_of (p R b B nB : Nat) (aL : Option Addr) (nL cL : Nat) (op ia ib ic x0 x1 x2 : Int) (n : Rg) (cs : List (Int × Int)) (w : World) (hR : RnAt w R b B aL nL cL n) (hM : MapAt w B nB cs) (hp : w.cell? ⟨b, 0, none⟩ = some (.int .i64 p)) : WoP p R b B nB aL nL cL op ia ib ic x0 x1 x2 n cs w ((w.alloc (.cells #[.int .i64 op, .int .i64 ia, .int .i64 ib, .int .i64 ic] 45)).alloc (.cells #[.int .i64 x0, .int .i64 x1, .int .i64 x2] 64)) := by
  obtain ⟨V, hV⟩ : ∃ V, V = w.alloc (.cells #[.int .i64 op, .int .i64 ia, .int .i64 ib, .int .i64 ic] 45) := ⟨_, rfl⟩
  have b1 : Below w.heap.size w V := by rw [hV]; exact (Below.refl _ _).alloc (Nat.le_refl _) _
  have hs : V.heap.size = w.heap.size + 1 := by rw [hV]; simp
  have hi : V.heap[w.heap.size]? = some (.cells #[.int .i64 op, .int .i64 ia, .int .i64 ib, .int .i64 ic] 45 (0, 0)) := by rw [hV]; exact heap_alloc_new w _
  rw [← hV]
  have b2 : Below V.heap.size V (V.alloc (.cells #[.int .i64 x0, .int .i64 x1, .int .i64 x2] 64)) := (Below.refl _ _).alloc (Nat.le_refl _) _
  have hbl := b1.trans (b2.mono b1.size)
  refine ⟨hR.of_block (hbl.block _ hR.lt), ?_, (hbl.cell (p := ⟨b, 0, none⟩) (World.block_lt_of_cell? _ _ hp)).trans hp, (b2.block w.heap.size (by omega)).trans hi, by rw [← hs]; exact heap_alloc_new V _, hbl⟩
  rw [hV]
  obtain ⟨D, h1, h2⟩ := hM
  exact ⟨D, (h1.alloc _).alloc _, h2⟩
theorem grW {w W W' : World} {B : Nat} (e : Below w.heap.size w W) (g : W.grownBy W' (some B)) : w.grownBy W' (some B) := ⟨g.os.trans e.os, g.tape.trans e.tape, g.output.trans e.output, Nat.le_trans e.size g.size, fun k hk hne => (g.block k (Nat.lt_of_lt_of_le hk e.size) hne).trans (e.block k hk)⟩
theorem grB {w W : World} {B : Nat} (e : Below w.heap.size w W) : w.grownBy W (some B) := ⟨e.os, e.tape, e.output, e.size, fun k hk _ => e.block k hk⟩
theorem rkn_fit {p : Nat} (h3 : 3 ≤ p) (h4 : p ≤ 2147483647) (op x y : Int) : I64 (rkn p op x y) := by
  have := rkn_bounds h3 op x y
  exact ⟨by omega, by omega⟩

theorem map_ne {w : World} {B n k : Nat} {cs : List (Int × Int)} {c : Array Value} {t : TypeId} {f : Nat × Nat} (h : MapAt w B n cs) (hk : w.heap[k]? = some (.cells c t f)) : k ≠ B := by
  rintro rfl
  obtain ⟨D, ⟨es, cl, h1, _⟩, _⟩ := h
  rw [hk] at h1
  injection h1 with h1
  cases h1
theorem map_blk {w w' : World} {B n k : Nat} {cs : List (Int × Int)} {c : Array Value} {t : TypeId} {f : Nat × Nat} (h : MapAt w B n cs) (g : w.grownBy w' (some B)) (hk : w.heap[k]? = some (.cells c t f)) : w'.heap[k]? = some (.cells c t f) :=
  (g.block k (Array.getElem?_eq_some_iff.1 hk).1 (by intro e; injection e with e; exact map_ne h hk e)).trans hk
theorem RnAt.told {w w' : World} {R b B nB : Nat} {aL : Option Addr} {nL cL : Nat} {n : Rg} {cs : List (Int × Int)} (h : RnAt w R b B aL nL cL n) (hm : MapAt w B nB cs) (g : w.grownBy w' (some B)) : RnAt w' R b B aL nL cL n := by
  have h' := h
  obtain ⟨c, h1, _⟩ := h'
  exact h.of_block ((map_blk hm g h1).trans h1.symm)
theorem cell_told {w w' : World} {B nB : Nat} {cs : List (Int × Int)} {k o : Nat} {v : Value} (hm : MapAt w B nB cs) (g : w.grownBy w' (some B)) (h : w.cell? ⟨k, o, none⟩ = some v) : w'.cell? ⟨k, o, none⟩ = some v := by
  have hlt := World.block_lt_of_cell? _ _ h
  refine (World.cell?_of_block (w := w) (a := ⟨k, o, none⟩) (g.block k hlt ?_)).trans h
  intro e
  injection e with e
  subst e
  obtain ⟨D, ⟨es, cl, h1, _⟩, _⟩ := hm
  simp [World.cell?, h1] at h

end Go.Proofs.YtdpdmgmeieijaaaGreatDoor
