/- Package machine: cells. Plain facts on products of x less numbers: they tell lists apart. Lists of cells that are read; what pairs come to, and their products. -/
import Derived.Test.YtaibngnabhmabajDoorBbAF
import Derived.Test.YtaibngnabhmabajDoorPlain
import Derived.Test.YtaibngnabhmabajDoorBbAA
import Derived.Test.YtaibngnabhmabajDoorFld
import Derived.Deep.QuietTactic
import Derived.BigQuiet
namespace Go.Proofs.YtaibngnabhmabajDoor
open Go.RowKit Go.Maps

/-- the cells of an instruction -/
def cel3 (p : Nat) (op a b c fp ap : Int) (i : Nat) : Int :=
  if op = 1 ∨ op = 2 ∨ op = 3 ∨ op = 4 ∨ op = 6 then (if i = 0 then (fp + a) % (p : Int) else if i = 1 then (fp + b) % (p : Int) else (fp + c) % (p : Int))
  else if op = 7 then (if i = 0 then (fp + a) % (p : Int) else if i = 1 then (fp + b) % (p : Int) else 0)
  else if op = 5 ∨ op = 9 ∨ op = 12 ∨ op = 0 then (if i = 0 then (fp + a) % (p : Int) else 0)
  else if op = 10 then (if i = 0 then ap % (p : Int) else if i = 1 then (ap + 1) % (p : Int) else 0)
  else if op = 11 then (if i = 0 then (fp - 2) % (p : Int) else if i = 1 then (fp - 1) % (p : Int) else (fp + a) % (p : Int))
  else if op = 13 then (if i = 0 then (fp + a) % (p : Int) else if i = 1 then ((ap + 2) % (p : Int) + b) % (p : Int) else 0)
  else 0
def I64 (x : Int) : Prop := -9223372036854775808 ≤ x ∧ x ≤ 9223372036854775807
/-- what stands in cells -/
structure CeP (p b B : Nat) (op ia ib ic : Int) (w W : World) : Prop where
  hp : W.cell? ⟨b, 0, none⟩ = some (.int .i64 p)
  i0 : W.cell? ⟨B, 0, none⟩ = some (.int .i64 op)
  i1 : W.cell? ⟨B, 1, none⟩ = some (.int .i64 ia)
  i2 : W.cell? ⟨B, 2, none⟩ = some (.int .i64 ib)
  i3 : W.cell? ⟨B, 3, none⟩ = some (.int .i64 ic)
  r : W.heap[B + 1]? = some (.cells #[.int .i64 0, .int .i64 0, .int .i64 0] 102 (0, 0))
  bel : Below w.heap.size w W
theorem ceP_of (p b : Nat) (op ia ib ic : Int) (w : World) (hp : w.cell? ⟨b, 0, none⟩ = some (.int .i64 p)) : CeP p b w.heap.size op ia ib ic w ((w.alloc (.cells #[.int .i64 op, .int .i64 ia, .int .i64 ib, .int .i64 ic] 83)).alloc (.cells #[.int .i64 0, .int .i64 0, .int .i64 0] 102)) := by
  obtain ⟨V, hV⟩ : ∃ V, V = w.alloc (.cells #[.int .i64 op, .int .i64 ia, .int .i64 ib, .int .i64 ic] 83) := ⟨_, rfl⟩
  have b1 : Below w.heap.size w V := by rw [hV]; exact (Below.refl _ _).alloc (Nat.le_refl _) _
  have hs : V.heap.size = w.heap.size + 1 := by rw [hV]; simp
  have hi : V.heap[w.heap.size]? = some (.cells #[.int .i64 op, .int .i64 ia, .int .i64 ib, .int .i64 ic] 83 (0, 0)) := by rw [hV]; exact heap_alloc_new w _
  rw [← hV]
  have b2 : Below V.heap.size V (V.alloc (.cells #[.int .i64 0, .int .i64 0, .int .i64 0] 102)) := (Below.refl _ _).alloc (Nat.le_refl _) _
  have hi2 := (b2.block w.heap.size (by omega)).trans hi
  have hbl := b1.trans (b2.mono b1.size)
  have hr : (V.alloc (.cells #[.int .i64 0, .int .i64 0, .int .i64 0] 102)).heap[w.heap.size + 1]? = some (.cells #[.int .i64 0, .int .i64 0, .int .i64 0] 102 (0, 0)) := by rw [← hs]; exact heap_alloc_new V _
  refine ⟨(hbl.cell (p := ⟨b, 0, none⟩) (World.block_lt_of_cell? _ _ hp)).trans hp, ?_, ?_, ?_, ?_, hr, hbl⟩
  all_goals simp [World.cell?, hi2]
theorem row3_arr {W : World} {g : Nat} {t : TypeId} {f : Nat → Value} (h : W.rowIs g t 3 f) : W.heap[g]? = some (.cells #[f 0, f 1, f 2] t (0, 0)) := by
  obtain ⟨c, hb, hs, hc⟩ := h
  rw [hb]
  congr 2
  apply Array.ext
  · simpa using hs
  · intro i h1 h2
    have h4 : i < 3 := by simpa using h2
    have := hc i h4
    rw [Array.getElem?_eq_getElem h1] at this
    injection this with this
    rw [this]
    have : i = 0 ∨ i = 1 ∨ i = 2 := by omega
    rcases this with rfl | rfl | rfl <;> rfl
theorem row3_of {W : World} {g : Nat} {t : TypeId} {a b c : Value} (h : W.heap[g]? = some (.cells #[a, b, c] t (0, 0))) : W.rowIs g t 3 (fun i => #[a, b, c].getD i .nilFunc) :=
  ⟨_, h, rfl, fun i hi => by
    have : i = 0 ∨ i = 1 ∨ i = 2 := by omega
    rcases this with rfl | rfl | rfl <;> rfl⟩
theorem put3_heap {W : World} {g : Nat} {t : TypeId} {z0 z1 z2 : Value} (h : W.heap[g]? = some (.cells #[z0, z1, z2] t (0, 0))) (a b c : Value) : (((W.setCell ⟨g, 0, none⟩ a).setCell ⟨g, 1, none⟩ b).setCell ⟨g, 2, none⟩ c).heap[g]? = some (.cells #[a, b, c] t (0, 0)) := by
  have := row3_arr ((((row3_of h).set 0 a).set 1 b).set 2 c)
  simpa using this
theorem put3_below {N : Nat} {w W : World} {g : Nat} (e : Below N w W) (hg : N ≤ g) (a b c : Value) : Below N w (((W.setCell ⟨g, 0, none⟩ a).setCell ⟨g, 1, none⟩ b).setCell ⟨g, 2, none⟩ c) :=
  ⟨e.os, e.tape, e.output, by simpa [World.setCell] using e.size, fun k hk => by
    rw [Below.heap_setCell _ _ _ _ (by show k ≠ g; omega), Below.heap_setCell _ _ _ _ (by show k ≠ g; omega), Below.heap_setCell _ _ _ _ (by show k ≠ g; omega)]
    exact e.block k hk⟩
/-- what cells gives -/
def CeR (p : Nat) (op ia ib ic fp ap : Int) (w : World) (e : Ending) (w' : World) : Prop := e = .returned (.agg #[.int .i64 (cel3 p op ia ib ic fp ap 0), .int .i64 (cel3 p op ia ib ic fp ap 1), .int .i64 (cel3 p op ia ib ic fp ap 2)]) ∧ Below w.heap.size w w'


set_option maxRecDepth 100000 in
set_option maxHeartbeats 1000000 in
theorem pcells_1 (p b : Nat) (ia ib ic fp ap : Int) (w : World) (h3 : 3 ≤ p) (h4 : p ≤ 2147483647) (hp : w.cell? ⟨b, 0, none⟩ = some (.int .i64 p)) (hb : I64 ia ∧ I64 ib ∧ I64 ic ∧ I64 fp ∧ I64 ap) :
    Calls Tryd.prog 73 #[.pointer (some ⟨b, 0, none⟩), .agg #[.int .i64 1, .int .i64 ia, .int .i64 ib, .int .i64 ic], .int .i64 fp, .int .i64 ap] w (CeR p 1 ia ib ic fp ap w) := by
  have hmx : Tryd.prog.follows .mixedOrders = true := by kernel_rfl
  obtain ⟨hia, hib, hic, hfp, hap⟩ := hb
  have HP := hid (ceP_of p b 1 ia ib ic w hp)
  have HC0 : Hid (∀ W : World, W.cell? ⟨b, 0, none⟩ = some (.int .i64 p) → Calls Tryd.prog 69 #[.pointer (some ⟨b, 0, none⟩), .int .i64 fp, .int .i64 ia] W fun e w' => e = .returned (.int .i64 ((fp + ia) % (p : Int))) ∧ w' = W) := fun W h => add_any p b _ _ W h3 h4 h hfp.1 hfp.2 hia.1 hia.2
  have HC1 : Hid (∀ W : World, W.cell? ⟨b, 0, none⟩ = some (.int .i64 p) → Calls Tryd.prog 69 #[.pointer (some ⟨b, 0, none⟩), .int .i64 fp, .int .i64 ib] W fun e w' => e = .returned (.int .i64 ((fp + ib) % (p : Int))) ∧ w' = W) := fun W h => add_any p b _ _ W h3 h4 h hfp.1 hfp.2 hib.1 hib.2
  have HC2 : Hid (∀ W : World, W.cell? ⟨b, 0, none⟩ = some (.int .i64 p) → Calls Tryd.prog 69 #[.pointer (some ⟨b, 0, none⟩), .int .i64 fp, .int .i64 ic] W fun e w' => e = .returned (.int .i64 ((fp + ic) % (p : Int))) ∧ w' = W) := fun W h => add_any p b _ _ W h3 h4 h hfp.1 hfp.2 hic.1 hic.2
  obtain ⟨W0, hW0⟩ : ∃ W0, W0 = (w.alloc (.cells #[.int .i64 1, .int .i64 ia, .int .i64 ib, .int .i64 ic] 83)).alloc (.cells #[.int .i64 0, .int .i64 0, .int .i64 0] 102) := ⟨_, rfl⟩
  rw [← hW0] at HP
  have hpc := HP.out.hp
  have j1 := HP.out.i1
  have j2 := HP.out.i2
  have j3 := HP.out.i3
  have y0 : ∀ i, W0.frozen? ⟨w.heap.size + 1, i, none⟩ = false := (row3_of HP.out.r).frozen
  have z0 : W0.cell? ⟨w.heap.size + 1, 0, none⟩ = some (.int .i64 0) := by simp [World.cell?, HP.out.r]
  have z1 : W0.cell? ⟨w.heap.size + 1, 1, none⟩ = some (.int .i64 0) := by simp [World.cell?, HP.out.r]
  have z2 : W0.cell? ⟨w.heap.size + 1, 2, none⟩ = some (.int .i64 0) := by simp [World.cell?, HP.out.r]
  clear hp hia hib hic hfp hap h3 h4
  go_enter Tryd.func73, Tryd.ntmps73
  go_wp2_with fail
  rw [← hW0]
  clear hW0
  refine wp_region_still_tail 16 hmx (by kernel_rfl) ?_
  simp only [List.take_succ_cons, List.take_zero, List.drop_succ_cons, List.drop_zero]
  repeat still_step
  still_call (HC0.out _ hpc)
  repeat still_step
  still_call (HC1.out _ hpc)
  repeat still_step
  still_call (HC2.out _ hpc)
  repeat still_step
  refine wpStill_nil ?_
  go_wp2_with fail
  (try simp only [Exit.inBlock, Exit.then])
  refine bodyPost_ret (results_cell_row rfl _ _ (w.heap.size + 1) 102 #[.int .i64 ((fp + ia) % (p : Int)), .int .i64 ((fp + ib) % (p : Int)), .int .i64 ((fp + ic) % (p : Int))] (0, 0) _ rfl (put3_heap HP.out.r (.int .i64 ((fp + ia) % (p : Int))) (.int .i64 ((fp + ib) % (p : Int))) (.int .i64 ((fp + ic) % (p : Int)))) Tryd.underlying102 rfl (by kernel_rfl)) rfl ?_
  refine ⟨by simp [cel3], (put3_below HP.out.bel (by omega) _ _ _).drew⟩

set_option maxRecDepth 100000 in
set_option maxHeartbeats 1000000 in
theorem pcells_2 (p b : Nat) (ia ib ic fp ap : Int) (w : World) (h3 : 3 ≤ p) (h4 : p ≤ 2147483647) (hp : w.cell? ⟨b, 0, none⟩ = some (.int .i64 p)) (hb : I64 ia ∧ I64 ib ∧ I64 ic ∧ I64 fp ∧ I64 ap) :
    Calls Tryd.prog 73 #[.pointer (some ⟨b, 0, none⟩), .agg #[.int .i64 2, .int .i64 ia, .int .i64 ib, .int .i64 ic], .int .i64 fp, .int .i64 ap] w (CeR p 2 ia ib ic fp ap w) := by
  have hmx : Tryd.prog.follows .mixedOrders = true := by kernel_rfl
  obtain ⟨hia, hib, hic, hfp, hap⟩ := hb
  have HP := hid (ceP_of p b 2 ia ib ic w hp)
  have HC0 : Hid (∀ W : World, W.cell? ⟨b, 0, none⟩ = some (.int .i64 p) → Calls Tryd.prog 69 #[.pointer (some ⟨b, 0, none⟩), .int .i64 fp, .int .i64 ia] W fun e w' => e = .returned (.int .i64 ((fp + ia) % (p : Int))) ∧ w' = W) := fun W h => add_any p b _ _ W h3 h4 h hfp.1 hfp.2 hia.1 hia.2
  have HC1 : Hid (∀ W : World, W.cell? ⟨b, 0, none⟩ = some (.int .i64 p) → Calls Tryd.prog 69 #[.pointer (some ⟨b, 0, none⟩), .int .i64 fp, .int .i64 ib] W fun e w' => e = .returned (.int .i64 ((fp + ib) % (p : Int))) ∧ w' = W) := fun W h => add_any p b _ _ W h3 h4 h hfp.1 hfp.2 hib.1 hib.2
  have HC2 : Hid (∀ W : World, W.cell? ⟨b, 0, none⟩ = some (.int .i64 p) → Calls Tryd.prog 69 #[.pointer (some ⟨b, 0, none⟩), .int .i64 fp, .int .i64 ic] W fun e w' => e = .returned (.int .i64 ((fp + ic) % (p : Int))) ∧ w' = W) := fun W h => add_any p b _ _ W h3 h4 h hfp.1 hfp.2 hic.1 hic.2
  obtain ⟨W0, hW0⟩ : ∃ W0, W0 = (w.alloc (.cells #[.int .i64 2, .int .i64 ia, .int .i64 ib, .int .i64 ic] 83)).alloc (.cells #[.int .i64 0, .int .i64 0, .int .i64 0] 102) := ⟨_, rfl⟩
  rw [← hW0] at HP
  have hpc := HP.out.hp
  have j1 := HP.out.i1
  have j2 := HP.out.i2
  have j3 := HP.out.i3
  have y0 : ∀ i, W0.frozen? ⟨w.heap.size + 1, i, none⟩ = false := (row3_of HP.out.r).frozen
  have z0 : W0.cell? ⟨w.heap.size + 1, 0, none⟩ = some (.int .i64 0) := by simp [World.cell?, HP.out.r]
  have z1 : W0.cell? ⟨w.heap.size + 1, 1, none⟩ = some (.int .i64 0) := by simp [World.cell?, HP.out.r]
  have z2 : W0.cell? ⟨w.heap.size + 1, 2, none⟩ = some (.int .i64 0) := by simp [World.cell?, HP.out.r]
  clear hp hia hib hic hfp hap h3 h4
  go_enter Tryd.func73, Tryd.ntmps73
  go_wp2_with fail
  rw [← hW0]
  clear hW0
  refine wp_region_still_tail 16 hmx (by kernel_rfl) ?_
  simp only [List.take_succ_cons, List.take_zero, List.drop_succ_cons, List.drop_zero]
  repeat still_step
  still_call (HC0.out _ hpc)
  repeat still_step
  still_call (HC1.out _ hpc)
  repeat still_step
  still_call (HC2.out _ hpc)
  repeat still_step
  refine wpStill_nil ?_
  go_wp2_with fail
  (try simp only [Exit.inBlock, Exit.then])
  refine bodyPost_ret (results_cell_row rfl _ _ (w.heap.size + 1) 102 #[.int .i64 ((fp + ia) % (p : Int)), .int .i64 ((fp + ib) % (p : Int)), .int .i64 ((fp + ic) % (p : Int))] (0, 0) _ rfl (put3_heap HP.out.r (.int .i64 ((fp + ia) % (p : Int))) (.int .i64 ((fp + ib) % (p : Int))) (.int .i64 ((fp + ic) % (p : Int)))) Tryd.underlying102 rfl (by kernel_rfl)) rfl ?_
  refine ⟨by simp [cel3], (put3_below HP.out.bel (by omega) _ _ _).drew⟩

set_option maxRecDepth 100000 in
set_option maxHeartbeats 1000000 in
theorem pcells_3 (p b : Nat) (ia ib ic fp ap : Int) (w : World) (h3 : 3 ≤ p) (h4 : p ≤ 2147483647) (hp : w.cell? ⟨b, 0, none⟩ = some (.int .i64 p)) (hb : I64 ia ∧ I64 ib ∧ I64 ic ∧ I64 fp ∧ I64 ap) :
    Calls Tryd.prog 73 #[.pointer (some ⟨b, 0, none⟩), .agg #[.int .i64 3, .int .i64 ia, .int .i64 ib, .int .i64 ic], .int .i64 fp, .int .i64 ap] w (CeR p 3 ia ib ic fp ap w) := by
  have hmx : Tryd.prog.follows .mixedOrders = true := by kernel_rfl
  obtain ⟨hia, hib, hic, hfp, hap⟩ := hb
  have HP := hid (ceP_of p b 3 ia ib ic w hp)
  have HC0 : Hid (∀ W : World, W.cell? ⟨b, 0, none⟩ = some (.int .i64 p) → Calls Tryd.prog 69 #[.pointer (some ⟨b, 0, none⟩), .int .i64 fp, .int .i64 ia] W fun e w' => e = .returned (.int .i64 ((fp + ia) % (p : Int))) ∧ w' = W) := fun W h => add_any p b _ _ W h3 h4 h hfp.1 hfp.2 hia.1 hia.2
  have HC1 : Hid (∀ W : World, W.cell? ⟨b, 0, none⟩ = some (.int .i64 p) → Calls Tryd.prog 69 #[.pointer (some ⟨b, 0, none⟩), .int .i64 fp, .int .i64 ib] W fun e w' => e = .returned (.int .i64 ((fp + ib) % (p : Int))) ∧ w' = W) := fun W h => add_any p b _ _ W h3 h4 h hfp.1 hfp.2 hib.1 hib.2
  have HC2 : Hid (∀ W : World, W.cell? ⟨b, 0, none⟩ = some (.int .i64 p) → Calls Tryd.prog 69 #[.pointer (some ⟨b, 0, none⟩), .int .i64 fp, .int .i64 ic] W fun e w' => e = .returned (.int .i64 ((fp + ic) % (p : Int))) ∧ w' = W) := fun W h => add_any p b _ _ W h3 h4 h hfp.1 hfp.2 hic.1 hic.2
  obtain ⟨W0, hW0⟩ : ∃ W0, W0 = (w.alloc (.cells #[.int .i64 3, .int .i64 ia, .int .i64 ib, .int .i64 ic] 83)).alloc (.cells #[.int .i64 0, .int .i64 0, .int .i64 0] 102) := ⟨_, rfl⟩
  rw [← hW0] at HP
  have hpc := HP.out.hp
  have j1 := HP.out.i1
  have j2 := HP.out.i2
  have j3 := HP.out.i3
  have y0 : ∀ i, W0.frozen? ⟨w.heap.size + 1, i, none⟩ = false := (row3_of HP.out.r).frozen
  have z0 : W0.cell? ⟨w.heap.size + 1, 0, none⟩ = some (.int .i64 0) := by simp [World.cell?, HP.out.r]
  have z1 : W0.cell? ⟨w.heap.size + 1, 1, none⟩ = some (.int .i64 0) := by simp [World.cell?, HP.out.r]
  have z2 : W0.cell? ⟨w.heap.size + 1, 2, none⟩ = some (.int .i64 0) := by simp [World.cell?, HP.out.r]
  clear hp hia hib hic hfp hap h3 h4
  go_enter Tryd.func73, Tryd.ntmps73
  go_wp2_with fail
  rw [← hW0]
  clear hW0
  refine wp_region_still_tail 16 hmx (by kernel_rfl) ?_
  simp only [List.take_succ_cons, List.take_zero, List.drop_succ_cons, List.drop_zero]
  repeat still_step
  still_call (HC0.out _ hpc)
  repeat still_step
  still_call (HC1.out _ hpc)
  repeat still_step
  still_call (HC2.out _ hpc)
  repeat still_step
  refine wpStill_nil ?_
  go_wp2_with fail
  (try simp only [Exit.inBlock, Exit.then])
  refine bodyPost_ret (results_cell_row rfl _ _ (w.heap.size + 1) 102 #[.int .i64 ((fp + ia) % (p : Int)), .int .i64 ((fp + ib) % (p : Int)), .int .i64 ((fp + ic) % (p : Int))] (0, 0) _ rfl (put3_heap HP.out.r (.int .i64 ((fp + ia) % (p : Int))) (.int .i64 ((fp + ib) % (p : Int))) (.int .i64 ((fp + ic) % (p : Int)))) Tryd.underlying102 rfl (by kernel_rfl)) rfl ?_
  refine ⟨by simp [cel3], (put3_below HP.out.bel (by omega) _ _ _).drew⟩

set_option maxRecDepth 100000 in
set_option maxHeartbeats 1000000 in
theorem pcells_4 (p b : Nat) (ia ib ic fp ap : Int) (w : World) (h3 : 3 ≤ p) (h4 : p ≤ 2147483647) (hp : w.cell? ⟨b, 0, none⟩ = some (.int .i64 p)) (hb : I64 ia ∧ I64 ib ∧ I64 ic ∧ I64 fp ∧ I64 ap) :
    Calls Tryd.prog 73 #[.pointer (some ⟨b, 0, none⟩), .agg #[.int .i64 4, .int .i64 ia, .int .i64 ib, .int .i64 ic], .int .i64 fp, .int .i64 ap] w (CeR p 4 ia ib ic fp ap w) := by
  have hmx : Tryd.prog.follows .mixedOrders = true := by kernel_rfl
  obtain ⟨hia, hib, hic, hfp, hap⟩ := hb
  have HP := hid (ceP_of p b 4 ia ib ic w hp)
  have HC0 : Hid (∀ W : World, W.cell? ⟨b, 0, none⟩ = some (.int .i64 p) → Calls Tryd.prog 69 #[.pointer (some ⟨b, 0, none⟩), .int .i64 fp, .int .i64 ia] W fun e w' => e = .returned (.int .i64 ((fp + ia) % (p : Int))) ∧ w' = W) := fun W h => add_any p b _ _ W h3 h4 h hfp.1 hfp.2 hia.1 hia.2
  have HC1 : Hid (∀ W : World, W.cell? ⟨b, 0, none⟩ = some (.int .i64 p) → Calls Tryd.prog 69 #[.pointer (some ⟨b, 0, none⟩), .int .i64 fp, .int .i64 ib] W fun e w' => e = .returned (.int .i64 ((fp + ib) % (p : Int))) ∧ w' = W) := fun W h => add_any p b _ _ W h3 h4 h hfp.1 hfp.2 hib.1 hib.2
  have HC2 : Hid (∀ W : World, W.cell? ⟨b, 0, none⟩ = some (.int .i64 p) → Calls Tryd.prog 69 #[.pointer (some ⟨b, 0, none⟩), .int .i64 fp, .int .i64 ic] W fun e w' => e = .returned (.int .i64 ((fp + ic) % (p : Int))) ∧ w' = W) := fun W h => add_any p b _ _ W h3 h4 h hfp.1 hfp.2 hic.1 hic.2
  obtain ⟨W0, hW0⟩ : ∃ W0, W0 = (w.alloc (.cells #[.int .i64 4, .int .i64 ia, .int .i64 ib, .int .i64 ic] 83)).alloc (.cells #[.int .i64 0, .int .i64 0, .int .i64 0] 102) := ⟨_, rfl⟩
  rw [← hW0] at HP
  have hpc := HP.out.hp
  have j1 := HP.out.i1
  have j2 := HP.out.i2
  have j3 := HP.out.i3
  have y0 : ∀ i, W0.frozen? ⟨w.heap.size + 1, i, none⟩ = false := (row3_of HP.out.r).frozen
  have z0 : W0.cell? ⟨w.heap.size + 1, 0, none⟩ = some (.int .i64 0) := by simp [World.cell?, HP.out.r]
  have z1 : W0.cell? ⟨w.heap.size + 1, 1, none⟩ = some (.int .i64 0) := by simp [World.cell?, HP.out.r]
  have z2 : W0.cell? ⟨w.heap.size + 1, 2, none⟩ = some (.int .i64 0) := by simp [World.cell?, HP.out.r]
  clear hp hia hib hic hfp hap h3 h4
  go_enter Tryd.func73, Tryd.ntmps73
  go_wp2_with fail
  rw [← hW0]
  clear hW0
  refine wp_region_still_tail 16 hmx (by kernel_rfl) ?_
  simp only [List.take_succ_cons, List.take_zero, List.drop_succ_cons, List.drop_zero]
  repeat still_step
  still_call (HC0.out _ hpc)
  repeat still_step
  still_call (HC1.out _ hpc)
  repeat still_step
  still_call (HC2.out _ hpc)
  repeat still_step
  refine wpStill_nil ?_
  go_wp2_with fail
  (try simp only [Exit.inBlock, Exit.then])
  refine bodyPost_ret (results_cell_row rfl _ _ (w.heap.size + 1) 102 #[.int .i64 ((fp + ia) % (p : Int)), .int .i64 ((fp + ib) % (p : Int)), .int .i64 ((fp + ic) % (p : Int))] (0, 0) _ rfl (put3_heap HP.out.r (.int .i64 ((fp + ia) % (p : Int))) (.int .i64 ((fp + ib) % (p : Int))) (.int .i64 ((fp + ic) % (p : Int)))) Tryd.underlying102 rfl (by kernel_rfl)) rfl ?_
  refine ⟨by simp [cel3], (put3_below HP.out.bel (by omega) _ _ _).drew⟩

set_option maxRecDepth 100000 in
set_option maxHeartbeats 1000000 in
theorem pcells_6 (p b : Nat) (ia ib ic fp ap : Int) (w : World) (h3 : 3 ≤ p) (h4 : p ≤ 2147483647) (hp : w.cell? ⟨b, 0, none⟩ = some (.int .i64 p)) (hb : I64 ia ∧ I64 ib ∧ I64 ic ∧ I64 fp ∧ I64 ap) :
    Calls Tryd.prog 73 #[.pointer (some ⟨b, 0, none⟩), .agg #[.int .i64 6, .int .i64 ia, .int .i64 ib, .int .i64 ic], .int .i64 fp, .int .i64 ap] w (CeR p 6 ia ib ic fp ap w) := by
  have hmx : Tryd.prog.follows .mixedOrders = true := by kernel_rfl
  obtain ⟨hia, hib, hic, hfp, hap⟩ := hb
  have HP := hid (ceP_of p b 6 ia ib ic w hp)
  have HC0 : Hid (∀ W : World, W.cell? ⟨b, 0, none⟩ = some (.int .i64 p) → Calls Tryd.prog 69 #[.pointer (some ⟨b, 0, none⟩), .int .i64 fp, .int .i64 ia] W fun e w' => e = .returned (.int .i64 ((fp + ia) % (p : Int))) ∧ w' = W) := fun W h => add_any p b _ _ W h3 h4 h hfp.1 hfp.2 hia.1 hia.2
  have HC1 : Hid (∀ W : World, W.cell? ⟨b, 0, none⟩ = some (.int .i64 p) → Calls Tryd.prog 69 #[.pointer (some ⟨b, 0, none⟩), .int .i64 fp, .int .i64 ib] W fun e w' => e = .returned (.int .i64 ((fp + ib) % (p : Int))) ∧ w' = W) := fun W h => add_any p b _ _ W h3 h4 h hfp.1 hfp.2 hib.1 hib.2
  have HC2 : Hid (∀ W : World, W.cell? ⟨b, 0, none⟩ = some (.int .i64 p) → Calls Tryd.prog 69 #[.pointer (some ⟨b, 0, none⟩), .int .i64 fp, .int .i64 ic] W fun e w' => e = .returned (.int .i64 ((fp + ic) % (p : Int))) ∧ w' = W) := fun W h => add_any p b _ _ W h3 h4 h hfp.1 hfp.2 hic.1 hic.2
  obtain ⟨W0, hW0⟩ : ∃ W0, W0 = (w.alloc (.cells #[.int .i64 6, .int .i64 ia, .int .i64 ib, .int .i64 ic] 83)).alloc (.cells #[.int .i64 0, .int .i64 0, .int .i64 0] 102) := ⟨_, rfl⟩
  rw [← hW0] at HP
  have hpc := HP.out.hp
  have j1 := HP.out.i1
  have j2 := HP.out.i2
  have j3 := HP.out.i3
  have y0 : ∀ i, W0.frozen? ⟨w.heap.size + 1, i, none⟩ = false := (row3_of HP.out.r).frozen
  have z0 : W0.cell? ⟨w.heap.size + 1, 0, none⟩ = some (.int .i64 0) := by simp [World.cell?, HP.out.r]
  have z1 : W0.cell? ⟨w.heap.size + 1, 1, none⟩ = some (.int .i64 0) := by simp [World.cell?, HP.out.r]
  have z2 : W0.cell? ⟨w.heap.size + 1, 2, none⟩ = some (.int .i64 0) := by simp [World.cell?, HP.out.r]
  clear hp hia hib hic hfp hap h3 h4
  go_enter Tryd.func73, Tryd.ntmps73
  go_wp2_with fail
  rw [← hW0]
  clear hW0
  refine wp_region_still_tail 16 hmx (by kernel_rfl) ?_
  simp only [List.take_succ_cons, List.take_zero, List.drop_succ_cons, List.drop_zero]
  repeat still_step
  still_call (HC0.out _ hpc)
  repeat still_step
  still_call (HC1.out _ hpc)
  repeat still_step
  still_call (HC2.out _ hpc)
  repeat still_step
  refine wpStill_nil ?_
  go_wp2_with fail
  (try simp only [Exit.inBlock, Exit.then])
  refine bodyPost_ret (results_cell_row rfl _ _ (w.heap.size + 1) 102 #[.int .i64 ((fp + ia) % (p : Int)), .int .i64 ((fp + ib) % (p : Int)), .int .i64 ((fp + ic) % (p : Int))] (0, 0) _ rfl (put3_heap HP.out.r (.int .i64 ((fp + ia) % (p : Int))) (.int .i64 ((fp + ib) % (p : Int))) (.int .i64 ((fp + ic) % (p : Int)))) Tryd.underlying102 rfl (by kernel_rfl)) rfl ?_
  refine ⟨by simp [cel3], (put3_below HP.out.bel (by omega) _ _ _).drew⟩

set_option maxRecDepth 100000 in
set_option maxHeartbeats 1000000 in
theorem pcells_7 (p b : Nat) (ia ib ic fp ap : Int) (w : World) (h3 : 3 ≤ p) (h4 : p ≤ 2147483647) (hp : w.cell? ⟨b, 0, none⟩ = some (.int .i64 p)) (hb : I64 ia ∧ I64 ib ∧ I64 ic ∧ I64 fp ∧ I64 ap) :
    Calls Tryd.prog 73 #[.pointer (some ⟨b, 0, none⟩), .agg #[.int .i64 7, .int .i64 ia, .int .i64 ib, .int .i64 ic], .int .i64 fp, .int .i64 ap] w (CeR p 7 ia ib ic fp ap w) := by
  have hmx : Tryd.prog.follows .mixedOrders = true := by kernel_rfl
  obtain ⟨hia, hib, hic, hfp, hap⟩ := hb
  have HP := hid (ceP_of p b 7 ia ib ic w hp)
  have HC0 : Hid (∀ W : World, W.cell? ⟨b, 0, none⟩ = some (.int .i64 p) → Calls Tryd.prog 69 #[.pointer (some ⟨b, 0, none⟩), .int .i64 fp, .int .i64 ia] W fun e w' => e = .returned (.int .i64 ((fp + ia) % (p : Int))) ∧ w' = W) := fun W h => add_any p b _ _ W h3 h4 h hfp.1 hfp.2 hia.1 hia.2
  have HC1 : Hid (∀ W : World, W.cell? ⟨b, 0, none⟩ = some (.int .i64 p) → Calls Tryd.prog 69 #[.pointer (some ⟨b, 0, none⟩), .int .i64 fp, .int .i64 ib] W fun e w' => e = .returned (.int .i64 ((fp + ib) % (p : Int))) ∧ w' = W) := fun W h => add_any p b _ _ W h3 h4 h hfp.1 hfp.2 hib.1 hib.2
  obtain ⟨W0, hW0⟩ : ∃ W0, W0 = (w.alloc (.cells #[.int .i64 7, .int .i64 ia, .int .i64 ib, .int .i64 ic] 83)).alloc (.cells #[.int .i64 0, .int .i64 0, .int .i64 0] 102) := ⟨_, rfl⟩
  rw [← hW0] at HP
  have hpc := HP.out.hp
  have j1 := HP.out.i1
  have j2 := HP.out.i2
  have j3 := HP.out.i3
  have y0 : ∀ i, W0.frozen? ⟨w.heap.size + 1, i, none⟩ = false := (row3_of HP.out.r).frozen
  have z0 : W0.cell? ⟨w.heap.size + 1, 0, none⟩ = some (.int .i64 0) := by simp [World.cell?, HP.out.r]
  have z1 : W0.cell? ⟨w.heap.size + 1, 1, none⟩ = some (.int .i64 0) := by simp [World.cell?, HP.out.r]
  have z2 : W0.cell? ⟨w.heap.size + 1, 2, none⟩ = some (.int .i64 0) := by simp [World.cell?, HP.out.r]
  clear hp hia hib hic hfp hap h3 h4
  go_enter Tryd.func73, Tryd.ntmps73
  go_wp2_with fail
  rw [← hW0]
  clear hW0
  refine wp_region_still_tail 11 hmx (by kernel_rfl) ?_
  simp only [List.take_succ_cons, List.take_zero, List.drop_succ_cons, List.drop_zero]
  repeat still_step
  still_call (HC0.out _ hpc)
  repeat still_step
  still_call (HC1.out _ hpc)
  repeat still_step
  refine wpStill_nil ?_
  go_wp2_with fail
  (try simp only [Exit.inBlock, Exit.then])
  refine bodyPost_ret (results_cell_row rfl _ _ (w.heap.size + 1) 102 #[.int .i64 ((fp + ia) % (p : Int)), .int .i64 ((fp + ib) % (p : Int)), .int .i64 0] (0, 0) _ rfl (put3_heap HP.out.r (.int .i64 ((fp + ia) % (p : Int))) (.int .i64 ((fp + ib) % (p : Int))) (.int .i64 0)) Tryd.underlying102 rfl (by kernel_rfl)) rfl ?_
  refine ⟨by simp [cel3], (put3_below HP.out.bel (by omega) _ _ _).drew⟩

set_option maxRecDepth 100000 in
set_option maxHeartbeats 1000000 in
theorem pcells_5 (p b : Nat) (ia ib ic fp ap : Int) (w : World) (h3 : 3 ≤ p) (h4 : p ≤ 2147483647) (hp : w.cell? ⟨b, 0, none⟩ = some (.int .i64 p)) (hb : I64 ia ∧ I64 ib ∧ I64 ic ∧ I64 fp ∧ I64 ap) :
    Calls Tryd.prog 73 #[.pointer (some ⟨b, 0, none⟩), .agg #[.int .i64 5, .int .i64 ia, .int .i64 ib, .int .i64 ic], .int .i64 fp, .int .i64 ap] w (CeR p 5 ia ib ic fp ap w) := by
  obtain ⟨hia, hib, hic, hfp, hap⟩ := hb
  have HP := hid (ceP_of p b 5 ia ib ic w hp)
  have HC0 : Hid (∀ W : World, W.cell? ⟨b, 0, none⟩ = some (.int .i64 p) → Calls Tryd.prog 69 #[.pointer (some ⟨b, 0, none⟩), .int .i64 fp, .int .i64 ia] W fun e w' => e = .returned (.int .i64 ((fp + ia) % (p : Int))) ∧ w' = W) := fun W h => add_any p b _ _ W h3 h4 h hfp.1 hfp.2 hia.1 hia.2
  obtain ⟨W0, hW0⟩ : ∃ W0, W0 = (w.alloc (.cells #[.int .i64 5, .int .i64 ia, .int .i64 ib, .int .i64 ic] 83)).alloc (.cells #[.int .i64 0, .int .i64 0, .int .i64 0] 102) := ⟨_, rfl⟩
  rw [← hW0] at HP
  have hpc := HP.out.hp
  have j1 := HP.out.i1
  have j2 := HP.out.i2
  have j3 := HP.out.i3
  have y0 : ∀ i, W0.frozen? ⟨w.heap.size + 1, i, none⟩ = false := (row3_of HP.out.r).frozen
  have z0 : W0.cell? ⟨w.heap.size + 1, 0, none⟩ = some (.int .i64 0) := by simp [World.cell?, HP.out.r]
  have z1 : W0.cell? ⟨w.heap.size + 1, 1, none⟩ = some (.int .i64 0) := by simp [World.cell?, HP.out.r]
  have z2 : W0.cell? ⟨w.heap.size + 1, 2, none⟩ = some (.int .i64 0) := by simp [World.cell?, HP.out.r]
  clear hp hia hib hic hfp hap h3 h4
  go_enter Tryd.func73, Tryd.ntmps73
  go_wp2_with fail
  rw [← hW0]
  clear hW0
  refine (HC0.out _ hpc).mono ?_
  rintro e w2 ⟨rfl, hw2⟩
  rw [hw2]
  clear hw2 w2
  go_wp2_with fail
  (try simp only [Exit.inBlock, Exit.then])
  refine bodyPost_ret (results_cell_row rfl _ _ (w.heap.size + 1) 102 #[.int .i64 ((fp + ia) % (p : Int)), .int .i64 0, .int .i64 0] (0, 0) _ rfl (put3_heap HP.out.r (.int .i64 ((fp + ia) % (p : Int))) (.int .i64 0) (.int .i64 0)) Tryd.underlying102 rfl (by kernel_rfl)) rfl ?_
  refine ⟨by simp [cel3], put3_below HP.out.bel (by omega) _ _ _⟩

set_option maxRecDepth 100000 in
set_option maxHeartbeats 1000000 in
theorem pcells_9 (p b : Nat) (ia ib ic fp ap : Int) (w : World) (h3 : 3 ≤ p) (h4 : p ≤ 2147483647) (hp : w.cell? ⟨b, 0, none⟩ = some (.int .i64 p)) (hb : I64 ia ∧ I64 ib ∧ I64 ic ∧ I64 fp ∧ I64 ap) :
    Calls Tryd.prog 73 #[.pointer (some ⟨b, 0, none⟩), .agg #[.int .i64 9, .int .i64 ia, .int .i64 ib, .int .i64 ic], .int .i64 fp, .int .i64 ap] w (CeR p 9 ia ib ic fp ap w) := by
  obtain ⟨hia, hib, hic, hfp, hap⟩ := hb
  have HP := hid (ceP_of p b 9 ia ib ic w hp)
  have HC0 : Hid (∀ W : World, W.cell? ⟨b, 0, none⟩ = some (.int .i64 p) → Calls Tryd.prog 69 #[.pointer (some ⟨b, 0, none⟩), .int .i64 fp, .int .i64 ia] W fun e w' => e = .returned (.int .i64 ((fp + ia) % (p : Int))) ∧ w' = W) := fun W h => add_any p b _ _ W h3 h4 h hfp.1 hfp.2 hia.1 hia.2
  obtain ⟨W0, hW0⟩ : ∃ W0, W0 = (w.alloc (.cells #[.int .i64 9, .int .i64 ia, .int .i64 ib, .int .i64 ic] 83)).alloc (.cells #[.int .i64 0, .int .i64 0, .int .i64 0] 102) := ⟨_, rfl⟩
  rw [← hW0] at HP
  have hpc := HP.out.hp
  have j1 := HP.out.i1
  have j2 := HP.out.i2
  have j3 := HP.out.i3
  have y0 : ∀ i, W0.frozen? ⟨w.heap.size + 1, i, none⟩ = false := (row3_of HP.out.r).frozen
  have z0 : W0.cell? ⟨w.heap.size + 1, 0, none⟩ = some (.int .i64 0) := by simp [World.cell?, HP.out.r]
  have z1 : W0.cell? ⟨w.heap.size + 1, 1, none⟩ = some (.int .i64 0) := by simp [World.cell?, HP.out.r]
  have z2 : W0.cell? ⟨w.heap.size + 1, 2, none⟩ = some (.int .i64 0) := by simp [World.cell?, HP.out.r]
  clear hp hia hib hic hfp hap h3 h4
  go_enter Tryd.func73, Tryd.ntmps73
  go_wp2_with fail
  rw [← hW0]
  clear hW0
  refine (HC0.out _ hpc).mono ?_
  rintro e w2 ⟨rfl, hw2⟩
  rw [hw2]
  clear hw2 w2
  go_wp2_with fail
  (try simp only [Exit.inBlock, Exit.then])
  refine bodyPost_ret (results_cell_row rfl _ _ (w.heap.size + 1) 102 #[.int .i64 ((fp + ia) % (p : Int)), .int .i64 0, .int .i64 0] (0, 0) _ rfl (put3_heap HP.out.r (.int .i64 ((fp + ia) % (p : Int))) (.int .i64 0) (.int .i64 0)) Tryd.underlying102 rfl (by kernel_rfl)) rfl ?_
  refine ⟨by simp [cel3], put3_below HP.out.bel (by omega) _ _ _⟩

set_option maxRecDepth 100000 in
set_option maxHeartbeats 1000000 in
theorem pcells_12 (p b : Nat) (ia ib ic fp ap : Int) (w : World) (h3 : 3 ≤ p) (h4 : p ≤ 2147483647) (hp : w.cell? ⟨b, 0, none⟩ = some (.int .i64 p)) (hb : I64 ia ∧ I64 ib ∧ I64 ic ∧ I64 fp ∧ I64 ap) :
    Calls Tryd.prog 73 #[.pointer (some ⟨b, 0, none⟩), .agg #[.int .i64 12, .int .i64 ia, .int .i64 ib, .int .i64 ic], .int .i64 fp, .int .i64 ap] w (CeR p 12 ia ib ic fp ap w) := by
  obtain ⟨hia, hib, hic, hfp, hap⟩ := hb
  have HP := hid (ceP_of p b 12 ia ib ic w hp)
  have HC0 : Hid (∀ W : World, W.cell? ⟨b, 0, none⟩ = some (.int .i64 p) → Calls Tryd.prog 69 #[.pointer (some ⟨b, 0, none⟩), .int .i64 fp, .int .i64 ia] W fun e w' => e = .returned (.int .i64 ((fp + ia) % (p : Int))) ∧ w' = W) := fun W h => add_any p b _ _ W h3 h4 h hfp.1 hfp.2 hia.1 hia.2
  obtain ⟨W0, hW0⟩ : ∃ W0, W0 = (w.alloc (.cells #[.int .i64 12, .int .i64 ia, .int .i64 ib, .int .i64 ic] 83)).alloc (.cells #[.int .i64 0, .int .i64 0, .int .i64 0] 102) := ⟨_, rfl⟩
  rw [← hW0] at HP
  have hpc := HP.out.hp
  have j1 := HP.out.i1
  have j2 := HP.out.i2
  have j3 := HP.out.i3
  have y0 : ∀ i, W0.frozen? ⟨w.heap.size + 1, i, none⟩ = false := (row3_of HP.out.r).frozen
  have z0 : W0.cell? ⟨w.heap.size + 1, 0, none⟩ = some (.int .i64 0) := by simp [World.cell?, HP.out.r]
  have z1 : W0.cell? ⟨w.heap.size + 1, 1, none⟩ = some (.int .i64 0) := by simp [World.cell?, HP.out.r]
  have z2 : W0.cell? ⟨w.heap.size + 1, 2, none⟩ = some (.int .i64 0) := by simp [World.cell?, HP.out.r]
  clear hp hia hib hic hfp hap h3 h4
  go_enter Tryd.func73, Tryd.ntmps73
  go_wp2_with fail
  rw [← hW0]
  clear hW0
  refine (HC0.out _ hpc).mono ?_
  rintro e w2 ⟨rfl, hw2⟩
  rw [hw2]
  clear hw2 w2
  go_wp2_with fail
  (try simp only [Exit.inBlock, Exit.then])
  refine bodyPost_ret (results_cell_row rfl _ _ (w.heap.size + 1) 102 #[.int .i64 ((fp + ia) % (p : Int)), .int .i64 0, .int .i64 0] (0, 0) _ rfl (put3_heap HP.out.r (.int .i64 ((fp + ia) % (p : Int))) (.int .i64 0) (.int .i64 0)) Tryd.underlying102 rfl (by kernel_rfl)) rfl ?_
  refine ⟨by simp [cel3], put3_below HP.out.bel (by omega) _ _ _⟩

set_option maxRecDepth 100000 in
set_option maxHeartbeats 1000000 in
theorem pcells_0 (p b : Nat) (ia ib ic fp ap : Int) (w : World) (h3 : 3 ≤ p) (h4 : p ≤ 2147483647) (hp : w.cell? ⟨b, 0, none⟩ = some (.int .i64 p)) (hb : I64 ia ∧ I64 ib ∧ I64 ic ∧ I64 fp ∧ I64 ap) :
    Calls Tryd.prog 73 #[.pointer (some ⟨b, 0, none⟩), .agg #[.int .i64 0, .int .i64 ia, .int .i64 ib, .int .i64 ic], .int .i64 fp, .int .i64 ap] w (CeR p 0 ia ib ic fp ap w) := by
  obtain ⟨hia, hib, hic, hfp, hap⟩ := hb
  have HP := hid (ceP_of p b 0 ia ib ic w hp)
  have HC0 : Hid (∀ W : World, W.cell? ⟨b, 0, none⟩ = some (.int .i64 p) → Calls Tryd.prog 69 #[.pointer (some ⟨b, 0, none⟩), .int .i64 fp, .int .i64 ia] W fun e w' => e = .returned (.int .i64 ((fp + ia) % (p : Int))) ∧ w' = W) := fun W h => add_any p b _ _ W h3 h4 h hfp.1 hfp.2 hia.1 hia.2
  obtain ⟨W0, hW0⟩ : ∃ W0, W0 = (w.alloc (.cells #[.int .i64 0, .int .i64 ia, .int .i64 ib, .int .i64 ic] 83)).alloc (.cells #[.int .i64 0, .int .i64 0, .int .i64 0] 102) := ⟨_, rfl⟩
  rw [← hW0] at HP
  have hpc := HP.out.hp
  have j1 := HP.out.i1
  have j2 := HP.out.i2
  have j3 := HP.out.i3
  have y0 : ∀ i, W0.frozen? ⟨w.heap.size + 1, i, none⟩ = false := (row3_of HP.out.r).frozen
  have z0 : W0.cell? ⟨w.heap.size + 1, 0, none⟩ = some (.int .i64 0) := by simp [World.cell?, HP.out.r]
  have z1 : W0.cell? ⟨w.heap.size + 1, 1, none⟩ = some (.int .i64 0) := by simp [World.cell?, HP.out.r]
  have z2 : W0.cell? ⟨w.heap.size + 1, 2, none⟩ = some (.int .i64 0) := by simp [World.cell?, HP.out.r]
  clear hp hia hib hic hfp hap h3 h4
  go_enter Tryd.func73, Tryd.ntmps73
  go_wp2_with fail
  rw [← hW0]
  clear hW0
  refine (HC0.out _ hpc).mono ?_
  rintro e w2 ⟨rfl, hw2⟩
  rw [hw2]
  clear hw2 w2
  go_wp2_with fail
  (try simp only [Exit.inBlock, Exit.then])
  refine bodyPost_ret (results_cell_row rfl _ _ (w.heap.size + 1) 102 #[.int .i64 ((fp + ia) % (p : Int)), .int .i64 0, .int .i64 0] (0, 0) _ rfl (put3_heap HP.out.r (.int .i64 ((fp + ia) % (p : Int))) (.int .i64 0) (.int .i64 0)) Tryd.underlying102 rfl (by kernel_rfl)) rfl ?_
  refine ⟨by simp [cel3], put3_below HP.out.bel (by omega) _ _ _⟩

set_option maxRecDepth 100000 in
set_option maxHeartbeats 1000000 in
theorem pcells_10 (p b : Nat) (ia ib ic fp ap : Int) (w : World) (h3 : 3 ≤ p) (h4 : p ≤ 2147483647) (hp : w.cell? ⟨b, 0, none⟩ = some (.int .i64 p)) (hb : I64 ia ∧ I64 ib ∧ I64 ic ∧ I64 fp ∧ I64 ap) :
    Calls Tryd.prog 73 #[.pointer (some ⟨b, 0, none⟩), .agg #[.int .i64 10, .int .i64 ia, .int .i64 ib, .int .i64 ic], .int .i64 fp, .int .i64 ap] w (CeR p 10 ia ib ic fp ap w) := by
  obtain ⟨hia, hib, hic, hfp, hap⟩ := hb
  have HP := hid (ceP_of p b 10 ia ib ic w hp)
  have HC0 : Hid (∀ W : World, W.cell? ⟨b, 0, none⟩ = some (.int .i64 p) → Calls Tryd.prog 67 #[.pointer (some ⟨b, 0, none⟩), .int .i64 ap] W fun e w' => e = .returned (.int .i64 (ap % (p : Int))) ∧ w' = W) := fun W h => of_any p b _ W h3 h4 h (hap.1) (hap.2)
  have HC1 : Hid (∀ W : World, W.cell? ⟨b, 0, none⟩ = some (.int .i64 p) → Calls Tryd.prog 69 #[.pointer (some ⟨b, 0, none⟩), .int .i64 ap, .int .i64 1] W fun e w' => e = .returned (.int .i64 ((ap + 1) % (p : Int))) ∧ w' = W) := fun W h => add_any p b _ _ W h3 h4 h hap.1 hap.2 (by decide) (by decide)
  obtain ⟨W0, hW0⟩ : ∃ W0, W0 = (w.alloc (.cells #[.int .i64 10, .int .i64 ia, .int .i64 ib, .int .i64 ic] 83)).alloc (.cells #[.int .i64 0, .int .i64 0, .int .i64 0] 102) := ⟨_, rfl⟩
  rw [← hW0] at HP
  have hpc := HP.out.hp
  have j1 := HP.out.i1
  have j2 := HP.out.i2
  have j3 := HP.out.i3
  have y0 : ∀ i, W0.frozen? ⟨w.heap.size + 1, i, none⟩ = false := (row3_of HP.out.r).frozen
  have z0 : W0.cell? ⟨w.heap.size + 1, 0, none⟩ = some (.int .i64 0) := by simp [World.cell?, HP.out.r]
  have z1 : W0.cell? ⟨w.heap.size + 1, 1, none⟩ = some (.int .i64 0) := by simp [World.cell?, HP.out.r]
  have z2 : W0.cell? ⟨w.heap.size + 1, 2, none⟩ = some (.int .i64 0) := by simp [World.cell?, HP.out.r]
  clear hp hia hib hic hfp hap h3 h4
  go_enter Tryd.func73, Tryd.ntmps73
  go_wp2_with fail
  rw [← hW0]
  clear hW0
  refine (HC0.out _ hpc).mono ?_
  rintro e w2 ⟨rfl, hw2⟩
  rw [hw2]
  clear hw2 w2
  go_wp2_with fail
  refine (HC1.out _ hpc).mono ?_
  rintro e w2 ⟨rfl, hw2⟩
  rw [hw2]
  clear hw2 w2
  go_wp2_with fail
  (try simp only [Exit.inBlock, Exit.then])
  refine bodyPost_ret (results_cell_row rfl _ _ (w.heap.size + 1) 102 #[.int .i64 (ap % (p : Int)), .int .i64 ((ap + 1) % (p : Int)), .int .i64 0] (0, 0) _ rfl (put3_heap HP.out.r (.int .i64 (ap % (p : Int))) (.int .i64 ((ap + 1) % (p : Int))) (.int .i64 0)) Tryd.underlying102 rfl (by kernel_rfl)) rfl ?_
  refine ⟨by simp [cel3], put3_below HP.out.bel (by omega) _ _ _⟩

set_option maxRecDepth 100000 in
set_option maxHeartbeats 1000000 in
theorem pcells_11 (p b : Nat) (ia ib ic fp ap : Int) (w : World) (h3 : 3 ≤ p) (h4 : p ≤ 2147483647) (hp : w.cell? ⟨b, 0, none⟩ = some (.int .i64 p)) (hb : I64 ia ∧ I64 ib ∧ I64 ic ∧ I64 fp ∧ I64 ap) :
    Calls Tryd.prog 73 #[.pointer (some ⟨b, 0, none⟩), .agg #[.int .i64 11, .int .i64 ia, .int .i64 ib, .int .i64 ic], .int .i64 fp, .int .i64 ap] w (CeR p 11 ia ib ic fp ap w) := by
  have hmx : Tryd.prog.follows .mixedOrders = true := by kernel_rfl
  obtain ⟨hia, hib, hic, hfp, hap⟩ := hb
  have HP := hid (ceP_of p b 11 ia ib ic w hp)
  have HC0 : Hid (∀ W : World, W.cell? ⟨b, 0, none⟩ = some (.int .i64 p) → Calls Tryd.prog 54 #[.pointer (some ⟨b, 0, none⟩), .int .i64 fp, .int .i64 2] W fun e w' => e = .returned (.int .i64 ((fp - 2) % (p : Int))) ∧ w' = W) := fun W h => sub_any p b _ _ W h3 h4 h hfp.1 hfp.2 (by decide) (by decide)
  have HC1 : Hid (∀ W : World, W.cell? ⟨b, 0, none⟩ = some (.int .i64 p) → Calls Tryd.prog 54 #[.pointer (some ⟨b, 0, none⟩), .int .i64 fp, .int .i64 1] W fun e w' => e = .returned (.int .i64 ((fp - 1) % (p : Int))) ∧ w' = W) := fun W h => sub_any p b _ _ W h3 h4 h hfp.1 hfp.2 (by decide) (by decide)
  have HC2 : Hid (∀ W : World, W.cell? ⟨b, 0, none⟩ = some (.int .i64 p) → Calls Tryd.prog 69 #[.pointer (some ⟨b, 0, none⟩), .int .i64 fp, .int .i64 ia] W fun e w' => e = .returned (.int .i64 ((fp + ia) % (p : Int))) ∧ w' = W) := fun W h => add_any p b _ _ W h3 h4 h hfp.1 hfp.2 hia.1 hia.2
  obtain ⟨W0, hW0⟩ : ∃ W0, W0 = (w.alloc (.cells #[.int .i64 11, .int .i64 ia, .int .i64 ib, .int .i64 ic] 83)).alloc (.cells #[.int .i64 0, .int .i64 0, .int .i64 0] 102) := ⟨_, rfl⟩
  rw [← hW0] at HP
  have hpc := HP.out.hp
  have j1 := HP.out.i1
  have j2 := HP.out.i2
  have j3 := HP.out.i3
  have y0 : ∀ i, W0.frozen? ⟨w.heap.size + 1, i, none⟩ = false := (row3_of HP.out.r).frozen
  have z0 : W0.cell? ⟨w.heap.size + 1, 0, none⟩ = some (.int .i64 0) := by simp [World.cell?, HP.out.r]
  have z1 : W0.cell? ⟨w.heap.size + 1, 1, none⟩ = some (.int .i64 0) := by simp [World.cell?, HP.out.r]
  have z2 : W0.cell? ⟨w.heap.size + 1, 2, none⟩ = some (.int .i64 0) := by simp [World.cell?, HP.out.r]
  clear hp hia hib hic hfp hap h3 h4
  go_enter Tryd.func73, Tryd.ntmps73
  go_wp2_with fail
  rw [← hW0]
  clear hW0
  refine wp_region_still_tail 12 hmx (by kernel_rfl) ?_
  simp only [List.take_succ_cons, List.take_zero, List.drop_succ_cons, List.drop_zero]
  repeat still_step
  still_call (HC0.out _ hpc)
  repeat still_step
  still_call (HC1.out _ hpc)
  repeat still_step
  still_call (HC2.out _ hpc)
  repeat still_step
  refine wpStill_nil ?_
  go_wp2_with fail
  (try simp only [Exit.inBlock, Exit.then])
  refine bodyPost_ret (results_cell_row rfl _ _ (w.heap.size + 1) 102 #[.int .i64 ((fp - 2) % (p : Int)), .int .i64 ((fp - 1) % (p : Int)), .int .i64 ((fp + ia) % (p : Int))] (0, 0) _ rfl (put3_heap HP.out.r (.int .i64 ((fp - 2) % (p : Int))) (.int .i64 ((fp - 1) % (p : Int))) (.int .i64 ((fp + ia) % (p : Int)))) Tryd.underlying102 rfl (by kernel_rfl)) rfl ?_
  refine ⟨by simp [cel3], (put3_below HP.out.bel (by omega) _ _ _).drew⟩

set_option maxRecDepth 100000 in
set_option maxHeartbeats 1000000 in
theorem pcells_13 (p b : Nat) (ia ib ic fp ap : Int) (w : World) (h3 : 3 ≤ p) (h4 : p ≤ 2147483647) (hp : w.cell? ⟨b, 0, none⟩ = some (.int .i64 p)) (hb : I64 ia ∧ I64 ib ∧ I64 ic ∧ I64 fp ∧ I64 ap) :
    Calls Tryd.prog 73 #[.pointer (some ⟨b, 0, none⟩), .agg #[.int .i64 13, .int .i64 ia, .int .i64 ib, .int .i64 ic], .int .i64 fp, .int .i64 ap] w (CeR p 13 ia ib ic fp ap w) := by
  have hmx : Tryd.prog.follows .mixedOrders = true := by kernel_rfl
  obtain ⟨hia, hib, hic, hfp, hap⟩ := hb
  obtain ⟨m2, hm2⟩ : ∃ m2, m2 = (ap + 2) % (p : Int) := ⟨_, rfl⟩
  have HM2 := hid hm2
  have hma : I64 m2 := by rw [hm2]; have := emod_bounds (ap + 2) p h3; exact ⟨by omega, by omega⟩
  have HP := hid (ceP_of p b 13 ia ib ic w hp)
  have HC0 : Hid (∀ W : World, W.cell? ⟨b, 0, none⟩ = some (.int .i64 p) → Calls Tryd.prog 69 #[.pointer (some ⟨b, 0, none⟩), .int .i64 fp, .int .i64 ia] W fun e w' => e = .returned (.int .i64 ((fp + ia) % (p : Int))) ∧ w' = W) := fun W h => add_any p b _ _ W h3 h4 h hfp.1 hfp.2 hia.1 hia.2
  have HC1 : Hid (∀ W : World, W.cell? ⟨b, 0, none⟩ = some (.int .i64 p) → Calls Tryd.prog 69 #[.pointer (some ⟨b, 0, none⟩), .int .i64 ap, .int .i64 2] W fun e w' => e = .returned (.int .i64 m2) ∧ w' = W) := fun W h => by rw [hm2]; exact add_any p b _ _ W h3 h4 h hap.1 hap.2 (by decide) (by decide)
  have HC2 : Hid (∀ W : World, W.cell? ⟨b, 0, none⟩ = some (.int .i64 p) → Calls Tryd.prog 69 #[.pointer (some ⟨b, 0, none⟩), .int .i64 m2, .int .i64 ib] W fun e w' => e = .returned (.int .i64 ((m2 + ib) % (p : Int))) ∧ w' = W) := fun W h => add_any p b _ _ W h3 h4 h hma.1 hma.2 hib.1 hib.2
  obtain ⟨W0, hW0⟩ : ∃ W0, W0 = (w.alloc (.cells #[.int .i64 13, .int .i64 ia, .int .i64 ib, .int .i64 ic] 83)).alloc (.cells #[.int .i64 0, .int .i64 0, .int .i64 0] 102) := ⟨_, rfl⟩
  rw [← hW0] at HP
  have hpc := HP.out.hp
  have j1 := HP.out.i1
  have j2 := HP.out.i2
  have j3 := HP.out.i3
  have y0 : ∀ i, W0.frozen? ⟨w.heap.size + 1, i, none⟩ = false := (row3_of HP.out.r).frozen
  have z0 : W0.cell? ⟨w.heap.size + 1, 0, none⟩ = some (.int .i64 0) := by simp [World.cell?, HP.out.r]
  have z1 : W0.cell? ⟨w.heap.size + 1, 1, none⟩ = some (.int .i64 0) := by simp [World.cell?, HP.out.r]
  have z2 : W0.cell? ⟨w.heap.size + 1, 2, none⟩ = some (.int .i64 0) := by simp [World.cell?, HP.out.r]
  clear hp hia hib hic hfp hap h3 h4 hma hm2
  go_enter Tryd.func73, Tryd.ntmps73
  go_wp2_with fail
  rw [← hW0]
  clear hW0
  refine wp_region_still_tail 13 hmx (by kernel_rfl) ?_
  simp only [List.take_succ_cons, List.take_zero, List.drop_succ_cons, List.drop_zero]
  repeat still_step
  still_call (HC0.out _ hpc)
  repeat still_step
  still_call (HC1.out _ hpc)
  repeat still_step
  still_call (HC2.out _ hpc)
  repeat still_step
  refine wpStill_nil ?_
  go_wp2_with fail
  (try simp only [Exit.inBlock, Exit.then])
  refine bodyPost_ret (results_cell_row rfl _ _ (w.heap.size + 1) 102 #[.int .i64 ((fp + ia) % (p : Int)), .int .i64 ((m2 + ib) % (p : Int)), .int .i64 0] (0, 0) _ rfl (put3_heap HP.out.r (.int .i64 ((fp + ia) % (p : Int))) (.int .i64 ((m2 + ib) % (p : Int))) (.int .i64 0)) Tryd.underlying102 rfl (by kernel_rfl)) rfl ?_
  refine ⟨by rw [HM2.out]; simp [cel3], (put3_below HP.out.bel (by omega) _ _ _).drew⟩

set_option maxRecDepth 100000 in
set_option maxHeartbeats 1000000 in
theorem pcells_8 (p b : Nat) (ia ib ic fp ap : Int) (w : World) (hp : w.cell? ⟨b, 0, none⟩ = some (.int .i64 p)) :
    Calls Tryd.prog 73 #[.pointer (some ⟨b, 0, none⟩), .agg #[.int .i64 8, .int .i64 ia, .int .i64 ib, .int .i64 ic], .int .i64 fp, .int .i64 ap] w (CeR p 8 ia ib ic fp ap w) := by
  have HP := hid (ceP_of p b 8 ia ib ic w hp)
  obtain ⟨W0, hW0⟩ : ∃ W0, W0 = (w.alloc (.cells #[.int .i64 8, .int .i64 ia, .int .i64 ib, .int .i64 ic] 83)).alloc (.cells #[.int .i64 0, .int .i64 0, .int .i64 0] 102) := ⟨_, rfl⟩
  rw [← hW0] at HP
  clear hp
  go_enter Tryd.func73, Tryd.ntmps73
  go_wp2_with fail
  rw [← hW0]
  clear hW0
  (try simp only [Exit.inBlock, Exit.then])
  refine bodyPost_ret (results_cell_row rfl _ _ (w.heap.size + 1) 102 #[.int .i64 0, .int .i64 0, .int .i64 0] (0, 0) _ rfl HP.out.r Tryd.underlying102 rfl (by kernel_rfl)) rfl ?_
  exact ⟨by simp [cel3], HP.out.bel⟩

set_option maxRecDepth 100000 in
set_option maxHeartbeats 1000000 in
theorem pcells_x (p b : Nat) (op : Int) (ia ib ic fp ap : Int) (w : World) (hp : w.cell? ⟨b, 0, none⟩ = some (.int .i64 p)) (hno : op ≠ 0 ∧ op ≠ 1 ∧ op ≠ 2 ∧ op ≠ 3 ∧ op ≠ 4 ∧ op ≠ 5 ∧ op ≠ 6 ∧ op ≠ 7 ∧ op ≠ 9 ∧ op ≠ 10 ∧ op ≠ 11 ∧ op ≠ 12 ∧ op ≠ 13) :
    Calls Tryd.prog 73 #[.pointer (some ⟨b, 0, none⟩), .agg #[.int .i64 op, .int .i64 ia, .int .i64 ib, .int .i64 ic], .int .i64 fp, .int .i64 ap] w (CeR p op ia ib ic fp ap w) := by
  have q0 : (op == 0) = false := by rw [beq_eq_false_iff_ne]; omega
  have q1 : (op == 1) = false := by rw [beq_eq_false_iff_ne]; omega
  have q2 : (op == 2) = false := by rw [beq_eq_false_iff_ne]; omega
  have q3 : (op == 3) = false := by rw [beq_eq_false_iff_ne]; omega
  have q4 : (op == 4) = false := by rw [beq_eq_false_iff_ne]; omega
  have q5 : (op == 5) = false := by rw [beq_eq_false_iff_ne]; omega
  have q6 : (op == 6) = false := by rw [beq_eq_false_iff_ne]; omega
  have q7 : (op == 7) = false := by rw [beq_eq_false_iff_ne]; omega
  have q9 : (op == 9) = false := by rw [beq_eq_false_iff_ne]; omega
  have q10 : (op == 10) = false := by rw [beq_eq_false_iff_ne]; omega
  have q11 : (op == 11) = false := by rw [beq_eq_false_iff_ne]; omega
  have q12 : (op == 12) = false := by rw [beq_eq_false_iff_ne]; omega
  have q13 : (op == 13) = false := by rw [beq_eq_false_iff_ne]; omega
  have HP := hid (ceP_of p b op ia ib ic w hp)
  obtain ⟨W0, hW0⟩ : ∃ W0, W0 = (w.alloc (.cells #[.int .i64 op, .int .i64 ia, .int .i64 ib, .int .i64 ic] 83)).alloc (.cells #[.int .i64 0, .int .i64 0, .int .i64 0] 102) := ⟨_, rfl⟩
  rw [← hW0] at HP
  clear hp
  go_enter Tryd.func73, Tryd.ntmps73
  go_wp2_with fail
  rw [← hW0]
  clear hW0
  (try simp only [Exit.inBlock, Exit.then])
  refine bodyPost_ret (results_cell_row rfl _ _ (w.heap.size + 1) 102 #[.int .i64 0, .int .i64 0, .int .i64 0] (0, 0) _ rfl HP.out.r Tryd.underlying102 rfl (by kernel_rfl)) rfl ?_
  exact ⟨by simp [cel3, hno], HP.out.bel⟩


end Go.Proofs.YtaibngnabhmabajDoor

namespace Go.Proofs.YtaibngnabhmabajDoor.Pol

/-- the product of x less each of a list, as a polynomial -/
def pl : List Int → S
  | [] => one
  | r :: l => mul (pl l) (lin r)
/-- .. at a place -/
def plv (x : Int) : List Int → Int
  | [] => 1
  | r :: l => plv x l * (x - r)

theorem lin_at (g : S) (r : Int) (n : Nat) : mul g (lin r) (n + 1) = g n - r * g (n + 1) := by
  rw [mul_lin]; simp [sub, sh, sc]
theorem lin_at0 (g : S) (r : Int) : mul g (lin r) 0 = - (r * g 0) := by
  rw [mul_lin]; simp [sub, sh, sc]
theorem pl_zero : ∀ (l : List Int) (j : Nat), l.length < j → pl l j = 0
  | [], j, h => by simp [pl, one]; simp at h; omega
  | r :: l, j, h => by
    simp at h
    obtain ⟨i, rfl⟩ : ∃ i, j = i + 1 := ⟨j - 1, by omega⟩
    rw [pl, lin_at, pl_zero l i (by omega), pl_zero l (i + 1) (by omega)]
    simp
theorem pl_top : ∀ (l : List Int), pl l l.length = 1
  | [] => by simp [pl, one]
  | r :: l => by
    rw [pl, List.length_cons, lin_at, pl_top l, pl_zero l (l.length + 1) (by omega)]
    simp
theorem ps_lin (g : S) (x r : Int) : ∀ n, ps (mul g (lin r)) x (n + 1) = (x - r) * ps g x n + - (r * g n) * x ^ n
  | 0 => by simp [ps, lin_at0]
  | n + 1 => by
    rw [ps, ps_lin g x r n, lin_at, ps, Int.pow_succ]
    grind
theorem ps_pl (x : Int) : ∀ (l : List Int), ps (pl l) x (l.length + 1) = plv x l
  | [] => by simp [ps, pl, one, plv]
  | r :: l => by
    rw [pl, List.length_cons, ps_lin, ps_pl x l, pl_zero l (l.length + 1) (by omega), plv]
    grind
theorem pl_perm {l m : List Int} (h : l.Perm m) : pl l = pl m := by
  induction h with
  | nil => rfl
  | cons x _ ih => rw [pl, pl, ih]
  | swap x y l => rw [pl, pl, pl, pl, mul_assoc, mul_assoc, mul_comm (lin y)]
  | trans _ _ h1 h2 => exact h1.trans h2
theorem plv_perm {x : Int} {l m : List Int} (h : l.Perm m) : plv x l = plv x m := by
  induction h with
  | nil => rfl
  | cons x _ ih => rw [plv, plv, ih]
  | swap a b l => simp only [plv]; grind
  | trans _ _ h1 h2 => exact h1.trans h2
theorem plv_root {p : Nat} (hp : Num.Prime p) (x : Int) : ∀ (l : List Int), (p : Int) ∣ plv x l → ∃ r, r ∈ l ∧ (p : Int) ∣ x - r
  | [], h => by
    rw [plv] at h
    have := Int.le_of_dvd (by decide) h
    have := hp.1
    omega
  | r :: l, h => by
    rw [plv] at h
    rcases prime_mul hp h with h | h
    · obtain ⟨r', h1, h2⟩ := plv_root hp x l h
      exact ⟨r', List.mem_cons_of_mem _ h1, h2⟩
    · exact ⟨r, List.mem_cons_self, h⟩
/-- what is the same times x - r is the same -/
theorem lin_cancel {p : Nat} {f g : S} {r : Int} {N : Nat} (hf : ∀ j, N < j → f j = 0) (hg : ∀ j, N < j → g j = 0) (h : Eqp p (mul f (lin r)) (mul g (lin r))) : Eqp p f g := by
  intro n
  rcases Nat.lt_or_ge N n with hn | hn
  · rw [hf n hn, hg n hn]; simp
  · obtain ⟨k, hk⟩ : ∃ k, n + k = N := ⟨N - n, by omega⟩
    induction k generalizing n with
    | zero =>
      have := h (n + 1)
      rw [lin_at, lin_at, hf (n + 1) (by omega), hg (n + 1) (by omega)] at this
      simpa using this
    | succ k ih =>
      have h1 := h (n + 1)
      have h2 := ih (n + 1) (by omega) (by omega)
      rw [lin_at, lin_at] at h1
      have h3 := Int.dvd_add h1 (Int.dvd_mul_of_dvd_right h2 (b := r))
      have e : f n - r * f (n + 1) - (g n - r * g (n + 1)) + r * (f (n + 1) - g (n + 1)) = f n - g n := by grind
      rw [e] at h3
      exact h3
/-- one polynomial, one list of roots -/
theorem pl_inj {p : Nat} (hp : Num.Prime p) : ∀ (l m : List Int), (∀ x, x ∈ l → 0 ≤ x ∧ x < p) → (∀ x, x ∈ m → 0 ≤ x ∧ x < p) → l.length = m.length → Eqp p (pl l) (pl m) → l.Perm m
  | [], m, _, _, h, _ => by
    have : m = [] := List.length_eq_zero_iff.1 (by simpa using h.symm)
    rw [this]
  | x :: l, m, hl, hm, hn, h => by
    have h1 : (p : Int) ∣ plv x m := by
      have e1 : plv x (x :: l) = 0 := by rw [plv]; simp
      have e2 := ps_congr (p := p) x ((x :: l).length + 1) (fun j _ => h j)
      rw [ps_pl, e1, hn, ps_pl] at e2
      have := Int.dvd_neg.2 e2
      simpa using this
    obtain ⟨r, hr, hd⟩ := plv_root hp x m h1
    have hx := hl x List.mem_cons_self
    have hr2 := hm r hr
    obtain rfl : x = r := eq_of_dvd hd hx.1 hx.2 hr2.1 hr2.2
    have hpe : m.Perm (x :: m.erase x) := List.perm_cons_erase hr
    rw [pl_perm hpe] at h
    have hle : (m.erase x).length = l.length := by
      have := hpe.length_eq
      simp at hn this ⊢
      omega
    have ih := pl_inj hp l (m.erase x) (fun y hy => hl y (List.mem_cons_of_mem _ hy)) (fun y hy => hm y (List.mem_of_mem_erase hy)) hle.symm
      (lin_cancel (N := l.length) (fun j hj => pl_zero l j hj) (fun j hj => pl_zero _ j (by omega)) h)
    exact (ih.cons x).trans hpe.symm
/-- products tell lists apart -/
theorem plv_tell {p : Nat} (hp : Num.Prime p) {l m : List Int} (hl : ∀ x, x ∈ l → 0 ≤ x ∧ x < p) (hm : ∀ x, x ∈ m → 0 ≤ x ∧ x < p) (hn : l.length = m.length)
    (xs : Nat → Int) (hu : ∀ i j, i < j → j < l.length → ¬ (p : Int) ∣ xs j - xs i) (hs : ∀ i, i < l.length → (p : Int) ∣ plv (xs i) l - plv (xs i) m) : l.Perm m := by
  refine pl_inj hp l m hl hm hn (fun j => ?_)
  rcases Nat.lt_or_ge j l.length with hj | hj
  · refine roots hp l.length (sub (pl l) (pl m)) xs hu (fun i hi => ?_) j hj
    have h := hs i hi
    rw [← ps_pl, ← ps_pl, ← hn] at h
    have e : ∀ (f g : S) (x : Int) n, ps (sub f g) x n = ps f x n - ps g x n := fun f g x n => by
      induction n with
      | zero => simp [ps]
      | succ n ih => rw [ps, ps, ps, ih]; simp only [sub]; grind
    have e2 : ps (sub (pl l) (pl m)) (xs i) (l.length + 1) = ps (sub (pl l) (pl m)) (xs i) l.length := by
      rw [ps]
      have : sub (pl l) (pl m) l.length = 0 := by
        unfold sub
        rw [pl_top]
        rw [show pl m l.length = 1 from by rw [hn]; exact pl_top m]
        rfl
      rw [this]
      simp
    rw [← e2, e]
    exact h
  · rcases Nat.lt_or_ge l.length j with h1 | h1
    · rw [pl_zero l j h1, pl_zero m j (by omega)]; simp
    · obtain rfl : j = l.length := by omega
      rw [pl_top, hn, pl_top]; simp

end Go.Proofs.YtaibngnabhmabajDoor.Pol

namespace Go.Proofs.YtaibngnabhmabajDoor
open Go.RowKit

/-- a list of cells that can be read -/
structure LstC (n0 : Nat) (w : World) (a : Option Addr) (cap : Nat) (L : List (Int × Int)) : Prop where
  row : ∀ k, k < L.length → ∃ b o, a = some ⟨b, o, none⟩ ∧ b < n0 ∧ w.cell? ⟨b, o + k * 2, none⟩ = some (.int .i64 (cat L k).1) ∧ w.cell? ⟨b, o + k * 2 + 1, none⟩ = some (.int .i64 (cat L k).2)
  room : L.length ≤ cap
  nil : a = none → cap = 0
theorem LstC.below {n0 : Nat} {A B : World} {a : Option Addr} {cap : Nat} {L : List (Int × Int)} (r : LstC n0 A a cap L) (h : Below n0 A B) : LstC n0 B a cap L :=
  ⟨fun k hk => by
    obtain ⟨b, o, h1, h2, h3, h4⟩ := r.row k hk
    exact ⟨b, o, h1, h2, (h.cell (p := ⟨b, o + k * 2, none⟩) h2).trans h3, (h.cell (p := ⟨b, o + k * 2 + 1, none⟩) h2).trans h4⟩, r.room, r.nil⟩
theorem LstC.mono {n0 n1 : Nat} {A : World} {a : Option Addr} {cap : Nat} {L : List (Int × Int)} (r : LstC n0 A a cap L) (h : n0 ≤ n1) : LstC n1 A a cap L :=
  ⟨fun k hk => by
    obtain ⟨b, o, h1, h2, h3⟩ := r.row k hk
    exact ⟨b, o, h1, by omega, h3⟩, r.room, r.nil⟩
/-- each number of a cell is an int -/
def CelB (L : List (Int × Int)) : Prop := ∀ k, k < L.length → (-9223372036854775808 ≤ (cat L k).1 ∧ (cat L k).1 ≤ 9223372036854775807) ∧ (-9223372036854775808 ≤ (cat L k).2 ∧ (cat L k).2 ≤ 9223372036854775807)
/-- what a pair comes to with y -/
def nb (p : Nat) (y : Int) (c : Int × Int) : Int := (c.1 + c.2 * y) % (p : Int)
theorem nb_prog (p : Nat) (y : Int) (c : Int × Int) : (c.1 + y * c.2 % (p : Int)) % (p : Int) = nb p y c := by
  unfold nb; rw [Int.add_emod, Int.emod_emod_of_dvd _ (Int.dvd_refl _), ← Int.add_emod, Int.mul_comm]
theorem nb_ref (p : Nat) (y : Int) (c : Int × Int) : (c.2 * y % (p : Int) + c.1) % (p : Int) = nb p y c := by
  unfold nb; rw [Int.add_emod, Int.emod_emod_of_dvd _ (Int.dvd_refl _), ← Int.add_emod, Int.add_comm]
/-- the product, place by place -/
def prd (p : Nat) (x y : Int) (L : List (Int × Int)) : Nat → Int
  | 0 => 1
  | k + 1 => prd p x y L k * ((x - nb p y (cat L k)) % (p : Int)) % (p : Int)
theorem prd_bd {p : Nat} (h3 : 3 ≤ p) (x y : Int) (L : List (Int × Int)) : ∀ k, 0 ≤ prd p x y L k ∧ prd p x y L k < p
  | 0 => ⟨(by show (0 : Int) ≤ 1; decide), (by show (1 : Int) < p; omega)⟩
  | k + 1 => emod_bounds _ p h3
theorem nb_bd {p : Nat} (h3 : 3 ≤ p) (y : Int) (c : Int × Int) : 0 ≤ nb p y c ∧ nb p y c < p := emod_bounds _ p h3
theorem cat_cons (c : Int × Int) (L : List (Int × Int)) (k : Nat) : cat (c :: L) (k + 1) = cat L k := by simp [cat]
theorem prd_app (p : Nat) (x y : Int) (L M : List (Int × Int)) : ∀ k, k ≤ L.length → prd p x y (L ++ M) k = prd p x y L k
  | 0, _ => rfl
  | k + 1, h => by
    have e : cat (L ++ M) k = cat L k := by unfold cat; rw [List.getD_eq_getElem?_getD, List.getD_eq_getElem?_getD, List.getElem?_append_left (by omega)]
    rw [prd, prd, prd_app p x y L M k (by omega), e]
theorem prd_snoc (p : Nat) (x y : Int) (L : List (Int × Int)) (c : Int × Int) : prd p x y (L ++ [c]) (L.length + 1) = prd p x y L L.length * ((x - nb p y c) % (p : Int)) % (p : Int) := by
  have e : cat (L ++ [c]) L.length = c := by simp [cat]
  rw [prd, prd_app p x y L [c] L.length (Nat.le_refl _), e]
theorem take_cat {L : List (Int × Int)} {k : Nat} (h : k < L.length) : L.take (k + 1) = L.take k ++ [cat L k] := by
  rw [List.take_add_one]
  simp [cat, h]
/-- the product is that of the numbers -/
theorem prd_plvk {p : Nat} (h3 : 3 ≤ p) (x y : Int) (L : List (Int × Int)) : ∀ k, k ≤ L.length → prd p x y L k = Pol.plv x (((L.take k).map (nb p y)).reverse) % (p : Int)
  | 0, _ => by simp [prd, Pol.plv]; rw [Int.emod_eq_of_lt (by decide) (by omega)]
  | k + 1, h => by
    rw [take_cat (by omega), prd, prd_plvk h3 x y L k (by omega), List.map_append, List.reverse_append]
    simp only [List.map_cons, List.map_nil, List.reverse_cons, List.reverse_nil, List.nil_append, List.singleton_append]
    rw [Pol.plv, ← Int.mul_emod]
theorem prd_plv {p : Nat} (h3 : 3 ≤ p) (x y : Int) (L : List (Int × Int)) : prd p x y L L.length = Pol.plv x (L.map (nb p y)) % (p : Int) := by
  rw [prd_plvk h3 x y L _ (Nat.le_refl _), List.take_length, Pol.plv_perm (List.reverse_perm _)]

end Go.Proofs.YtaibngnabhmabajDoor
