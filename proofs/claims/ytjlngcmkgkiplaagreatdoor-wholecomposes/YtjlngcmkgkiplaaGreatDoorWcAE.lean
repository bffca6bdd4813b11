
import Derived.Test.YtjlngcmkgkiplaaGreatDoorWcAD
import Derived.StillTailTactics
import Derived.Deep.RegionHeld3
set_option maxRecDepth 1000000
set_option maxHeartbeats 8000000
namespace Go.Proofs.YtjlngcmkgkiplaaGreatDoor
open Go.RowKit Go.Maps
def cel3 (p : Nat) (op a b c fp ap : Int) (i : Nat) : Int :=
 if op = 1 ∨ op = 2 ∨ op = 3 ∨ op = 4 ∨ op = 6 then (if i = 0 then (fp + a) % (p : Int) else if i = 1 then (fp + b) % (p : Int) else (fp + c) % (p : Int))
 else if op = 7 then (if i = 0 then (fp + a) % (p : Int) else if i = 1 then (fp + b) % (p : Int) else 0)
 else if op = 5 ∨ op = 9 ∨ op = 12 ∨ op = 0 then (if i = 0 then (fp + a) % (p : Int) else 0)
 else if op = 10 then (if i = 0 then ap % (p : Int) else if i = 1 then (ap + 1) % (p : Int) else 0)
 else if op = 11 then (if i = 0 then (fp - 2) % (p : Int) else if i = 1 then (fp - 1) % (p : Int) else (fp + a) % (p : Int))
 else if op = 13 then (if i = 0 then (fp + a) % (p : Int) else if i = 1 then ((ap + 2) % (p : Int) + b) % (p : Int) else 0)
 else 0
def I64 (x : Int) : Prop := -9223372036854775808 <= x /\ x <= 9223372036854775807
structure CeP (p b B : Nat) (op ia ib ic : Int) (w W : World) : Prop where
 hp : W.cell? ⟨b, 0, none⟩ = some (.int .i64 p)
 i0 : W.cell? ⟨B, 0, none⟩ = some (.int .i64 op)
 i1 : W.cell? ⟨B, 1, none⟩ = some (.int .i64 ia)
 i2 : W.cell? ⟨B, 2, none⟩ = some (.int .i64 ib)
 i3 : W.cell? ⟨B, 3, none⟩ = some (.int .i64 ic)
 r : W.heap[B + 1]? = some (.cells #[.int .i64 0, .int .i64 0, .int .i64 0] 183 (0, 0))
 bel : Below w.heap.size w W
theorem ceP_of (p b : Nat) (op ia ib ic : Int) (w : World) (hp : w.cell? ⟨b, 0, none⟩ = some (.int .i64 p)) : CeP p b w.heap.size op ia ib ic w ((w.alloc (.cells #[.int .i64 op, .int .i64 ia, .int .i64 ib, .int .i64 ic] 180)).alloc (.cells #[.int .i64 0, .int .i64 0, .int .i64 0] 183)) := by
 obtain ⟨V, hV⟩ := exE (w.alloc (.cells #[.int .i64 op, .int .i64 ia, .int .i64 ib, .int .i64 ic] 180))
 have b1 := blA hV
 have hs : V.heap.size = w.heap.size + 1 := by rw [hV]; simp
 have hi := haA hV
 rw [<- hV]
 have b2 : Below V.heap.size V (V.alloc (.cells #[.int .i64 0, .int .i64 0, .int .i64 0] 183)) := (Below.refl _ _).alloc (Nat.le_refl _) _
 have hi2 := (b2.block w.heap.size (by omega)).trans hi
 have hbl := b1.trans (b2.mono b1.size)
 have hr : (V.alloc (.cells #[.int .i64 0, .int .i64 0, .int .i64 0] 183)).heap[w.heap.size + 1]? = some (.cells #[.int .i64 0, .int .i64 0, .int .i64 0] 183 (0, 0)) := by rw [<- hs]; exact heap_alloc_new V _
 refine ⟨(hbl.cell (p := ⟨b, 0, none⟩) (World.block_lt_of_cell? _ _ hp)).trans hp, ?_, ?_, ?_, ?_, hr, hbl⟩
 all_goals simp [World.cell?, hi2]
theorem row3_arr {W : World} {g : Nat} {t : TypeId} {f : Nat -> Value} (h : W.rowIs g t 3 f) : W.heap[g]? = some (.cells #[f 0, f 1, f 2] t (0, 0)) := by
 obtain ⟨c, hb, hs, hc⟩ := h
 rw [hb]
 congr 2
 apply Array.ext
 ·simpa using hs
 ·intro i h1 h2
  have h4 : i < 3 := by simpa using h2
  have := hc i h4
  rw [Array.getElem?_eq_getElem h1] at this
  injection this with this
  rw [this]
  have : i = 0 ∨ i = 1 ∨ i = 2 := by omega
  rcases this with rfl | rfl | rfl <;> rfl
theorem row3_of {W : World} {g : Nat} {t : TypeId} {a b c : Value} (h : W.heap[g]? = some (.cells #[a, b, c] t (0, 0))) : W.rowIs g t 3 (fun i => #[a, b, c].getD i .nilFunc) :=
 ⟨_, h, rfl, fun i hi => by
  have : i = 0 ∨ i = 1 ∨ i = 2 := by omega
  rcases this with rfl | rfl | rfl <;> rfl⟩
theorem put3_heap {W : World} {g : Nat} {t : TypeId} {z0 z1 z2 : Value} (h : W.heap[g]? = some (.cells #[z0, z1, z2] t (0, 0))) (a b c : Value) : (((W.setCell ⟨g, 0, none⟩ a).setCell ⟨g, 1, none⟩ b).setCell ⟨g, 2, none⟩ c).heap[g]? = some (.cells #[a, b, c] t (0, 0)) := by
 have := row3_arr ((((row3_of h).set 0 a).set 1 b).set 2 c)
 simpa using this
theorem put3_below {N : Nat} {w W : World} {g : Nat} (e : Below N w W) (hg : N <= g) (a b c : Value) : Below N w (((W.setCell ⟨g, 0, none⟩ a).setCell ⟨g, 1, none⟩ b).setCell ⟨g, 2, none⟩ c) :=
 ⟨e.os, e.tape, e.output, by simpa [World.setCell] using e.size, fun k hk => by
  rw [Below.heap_setCell _ _ _ _ (by show k ≠ g; omega), Below.heap_setCell _ _ _ _ (by show k ≠ g; omega), Below.heap_setCell _ _ _ _ (by show k ≠ g; omega)]
  exact e.block k hk⟩
def CeR (p : Nat) (op ia ib ic fp ap : Int) (w : World) (e : Ending) (w' : World) : Prop := e = .returned (.agg #[.int .i64 (cel3 p op ia ib ic fp ap 0), .int .i64 (cel3 p op ia ib ic fp ap 1), .int .i64 (cel3 p op ia ib ic fp ap 2)]) /\ Below w.heap.size w w'
theorem pcells_1 (p b : Nat) (ia ib ic fp ap : Int) (w : World) (h3 : 3 <= p) (h4 : p <= 2147483647) (hp : w.cell? ⟨b, 0, none⟩ = some (.int .i64 p)) (hb : I64 ia /\ I64 ib /\ I64 ic /\ I64 fp /\ I64 ap) :
  Calls Tryz.prog 148 #[.pointer (some ⟨b, 0, none⟩), .agg #[.int .i64 1, .int .i64 ia, .int .i64 ib, .int .i64 ic], .int .i64 fp, .int .i64 ap] w (CeR p 1 ia ib ic fp ap w) := by
 have hmx : Tryz.prog.follows .mixedOrders = true := by kernel_rfl
 obtain ⟨hia, hib, hic, hfp, hap⟩ := hb
 have HP := hid (ceP_of p b 1 ia ib ic w hp)
 have HC0 := hid (fun W h => add_any p b fp ia W h3 h4 h hfp.1 hfp.2 hia.1 hia.2)
 have HC1 := hid (fun W h => add_any p b fp ib W h3 h4 h hfp.1 hfp.2 hib.1 hib.2)
 have HC2 := hid (fun W h => add_any p b fp ic W h3 h4 h hfp.1 hfp.2 hic.1 hic.2)
 obtain ⟨W0, hW0⟩ := exE ((w.alloc (.cells #[.int .i64 1, .int .i64 ia, .int .i64 ib, .int .i64 ic] 180)).alloc (.cells #[.int .i64 0, .int .i64 0, .int .i64 0] 183))
 rw [<- hW0] at HP
 have hpc := HP.out.hp
 have j1 := HP.out.i1
 have j2 := HP.out.i2
 have j3 := HP.out.i3
 have y0 : ∀ i, W0.frozen? ⟨w.heap.size + 1, i, none⟩ = false := (row3_of HP.out.r).frozen
 have z0 : W0.cell? ⟨w.heap.size + 1, 0, none⟩ = some (.int .i64 0) := by simp [World.cell?, HP.out.r]
 have z1 : W0.cell? ⟨w.heap.size + 1, 1, none⟩ = some (.int .i64 0) := by simp [World.cell?, HP.out.r]
 have z2 : W0.cell? ⟨w.heap.size + 1, 2, none⟩ = some (.int .i64 0) := by simp [World.cell?, HP.out.r]
 clear hp hia hib hic hfp hap h3 h4
 go_enter Tryz.func148, Tryz.ntmps148
 go_wp2_with fail
 rw [<- hW0]
 clear hW0
 refine wp_region_still_tail 16 hmx (by kernel_rfl) ?_
 simp only [List.take_succ_cons, List.take_zero, List.drop_succ_cons, List.drop_zero]
 repeat still_step
 still_call (HC0.out _ hpc)
 repeat still_step
 still_call (HC1.out _ hpc)
 repeat still_step
 still_call (HC2.out _ hpc)
 repeat still_step
 refine wpStill_nil ?_
 go_wp2_with fail
 (try simp only [Exit.inBlock, Exit.then])
 refine bodyPost_ret (results_cell_row rfl _ _ (w.heap.size + 1) 183 #[.int .i64 ((fp + ia) % (p : Int)), .int .i64 ((fp + ib) % (p : Int)), .int .i64 ((fp + ic) % (p : Int))] (0, 0) _ rfl (put3_heap HP.out.r (.int .i64 ((fp + ia) % (p : Int))) (.int .i64 ((fp + ib) % (p : Int))) (.int .i64 ((fp + ic) % (p : Int)))) Tryz.underlying183 rfl (by kernel_rfl)) rfl ?_
 refine ⟨by simp [cel3], (put3_below HP.out.bel (by omega) _ _ _).drew⟩
theorem pcells_2 (p b : Nat) (ia ib ic fp ap : Int) (w : World) (h3 : 3 <= p) (h4 : p <= 2147483647) (hp : w.cell? ⟨b, 0, none⟩ = some (.int .i64 p)) (hb : I64 ia /\ I64 ib /\ I64 ic /\ I64 fp /\ I64 ap) :
  Calls Tryz.prog 148 #[.pointer (some ⟨b, 0, none⟩), .agg #[.int .i64 2, .int .i64 ia, .int .i64 ib, .int .i64 ic], .int .i64 fp, .int .i64 ap] w (CeR p 2 ia ib ic fp ap w) := by
 have hmx : Tryz.prog.follows .mixedOrders = true := by kernel_rfl
 obtain ⟨hia, hib, hic, hfp, hap⟩ := hb
 have HP := hid (ceP_of p b 2 ia ib ic w hp)
 have HC0 := hid (fun W h => add_any p b fp ia W h3 h4 h hfp.1 hfp.2 hia.1 hia.2)
 have HC1 := hid (fun W h => add_any p b fp ib W h3 h4 h hfp.1 hfp.2 hib.1 hib.2)
 have HC2 := hid (fun W h => add_any p b fp ic W h3 h4 h hfp.1 hfp.2 hic.1 hic.2)
 obtain ⟨W0, hW0⟩ := exE ((w.alloc (.cells #[.int .i64 2, .int .i64 ia, .int .i64 ib, .int .i64 ic] 180)).alloc (.cells #[.int .i64 0, .int .i64 0, .int .i64 0] 183))
 rw [<- hW0] at HP
 have hpc := HP.out.hp
 have j1 := HP.out.i1
 have j2 := HP.out.i2
 have j3 := HP.out.i3
 have y0 : ∀ i, W0.frozen? ⟨w.heap.size + 1, i, none⟩ = false := (row3_of HP.out.r).frozen
 have z0 : W0.cell? ⟨w.heap.size + 1, 0, none⟩ = some (.int .i64 0) := by simp [World.cell?, HP.out.r]
 have z1 : W0.cell? ⟨w.heap.size + 1, 1, none⟩ = some (.int .i64 0) := by simp [World.cell?, HP.out.r]
 have z2 : W0.cell? ⟨w.heap.size + 1, 2, none⟩ = some (.int .i64 0) := by simp [World.cell?, HP.out.r]
 clear hp hia hib hic hfp hap h3 h4
 go_enter Tryz.func148, Tryz.ntmps148
 go_wp2_with fail
 rw [<- hW0]
 clear hW0
 refine wp_region_still_tail 16 hmx (by kernel_rfl) ?_
 simp only [List.take_succ_cons, List.take_zero, List.drop_succ_cons, List.drop_zero]
 repeat still_step
 still_call (HC0.out _ hpc)
 repeat still_step
 still_call (HC1.out _ hpc)
 repeat still_step
 still_call (HC2.out _ hpc)
 repeat still_step
 refine wpStill_nil ?_
 go_wp2_with fail
 (try simp only [Exit.inBlock, Exit.then])
 refine bodyPost_ret (results_cell_row rfl _ _ (w.heap.size + 1) 183 #[.int .i64 ((fp + ia) % (p : Int)), .int .i64 ((fp + ib) % (p : Int)), .int .i64 ((fp + ic) % (p : Int))] (0, 0) _ rfl (put3_heap HP.out.r (.int .i64 ((fp + ia) % (p : Int))) (.int .i64 ((fp + ib) % (p : Int))) (.int .i64 ((fp + ic) % (p : Int)))) Tryz.underlying183 rfl (by kernel_rfl)) rfl ?_
 refine ⟨by simp [cel3], (put3_below HP.out.bel (by omega) _ _ _).drew⟩
theorem pcells_3 (p b : Nat) (ia ib ic fp ap : Int) (w : World) (h3 : 3 <= p) (h4 : p <= 2147483647) (hp : w.cell? ⟨b, 0, none⟩ = some (.int .i64 p)) (hb : I64 ia /\ I64 ib /\ I64 ic /\ I64 fp /\ I64 ap) :
  Calls Tryz.prog 148 #[.pointer (some ⟨b, 0, none⟩), .agg #[.int .i64 3, .int .i64 ia, .int .i64 ib, .int .i64 ic], .int .i64 fp, .int .i64 ap] w (CeR p 3 ia ib ic fp ap w) := by
 have hmx : Tryz.prog.follows .mixedOrders = true := by kernel_rfl
 obtain ⟨hia, hib, hic, hfp, hap⟩ := hb
 have HP := hid (ceP_of p b 3 ia ib ic w hp)
 have HC0 := hid (fun W h => add_any p b fp ia W h3 h4 h hfp.1 hfp.2 hia.1 hia.2)
 have HC1 := hid (fun W h => add_any p b fp ib W h3 h4 h hfp.1 hfp.2 hib.1 hib.2)
 have HC2 := hid (fun W h => add_any p b fp ic W h3 h4 h hfp.1 hfp.2 hic.1 hic.2)
 obtain ⟨W0, hW0⟩ := exE ((w.alloc (.cells #[.int .i64 3, .int .i64 ia, .int .i64 ib, .int .i64 ic] 180)).alloc (.cells #[.int .i64 0, .int .i64 0, .int .i64 0] 183))
 rw [<- hW0] at HP
 have hpc := HP.out.hp
 have j1 := HP.out.i1
 have j2 := HP.out.i2
 have j3 := HP.out.i3
 have y0 : ∀ i, W0.frozen? ⟨w.heap.size + 1, i, none⟩ = false := (row3_of HP.out.r).frozen
 have z0 : W0.cell? ⟨w.heap.size + 1, 0, none⟩ = some (.int .i64 0) := by simp [World.cell?, HP.out.r]
 have z1 : W0.cell? ⟨w.heap.size + 1, 1, none⟩ = some (.int .i64 0) := by simp [World.cell?, HP.out.r]
 have z2 : W0.cell? ⟨w.heap.size + 1, 2, none⟩ = some (.int .i64 0) := by simp [World.cell?, HP.out.r]
 clear hp hia hib hic hfp hap h3 h4
 go_enter Tryz.func148, Tryz.ntmps148
 go_wp2_with fail
 rw [<- hW0]
 clear hW0
 refine wp_region_still_tail 16 hmx (by kernel_rfl) ?_
 simp only [List.take_succ_cons, List.take_zero, List.drop_succ_cons, List.drop_zero]
 repeat still_step
 still_call (HC0.out _ hpc)
 repeat still_step
 still_call (HC1.out _ hpc)
 repeat still_step
 still_call (HC2.out _ hpc)
 repeat still_step
 refine wpStill_nil ?_
 go_wp2_with fail
 (try simp only [Exit.inBlock, Exit.then])
 refine bodyPost_ret (results_cell_row rfl _ _ (w.heap.size + 1) 183 #[.int .i64 ((fp + ia) % (p : Int)), .int .i64 ((fp + ib) % (p : Int)), .int .i64 ((fp + ic) % (p : Int))] (0, 0) _ rfl (put3_heap HP.out.r (.int .i64 ((fp + ia) % (p : Int))) (.int .i64 ((fp + ib) % (p : Int))) (.int .i64 ((fp + ic) % (p : Int)))) Tryz.underlying183 rfl (by kernel_rfl)) rfl ?_
 refine ⟨by simp [cel3], (put3_below HP.out.bel (by omega) _ _ _).drew⟩
theorem pcells_4 (p b : Nat) (ia ib ic fp ap : Int) (w : World) (h3 : 3 <= p) (h4 : p <= 2147483647) (hp : w.cell? ⟨b, 0, none⟩ = some (.int .i64 p)) (hb : I64 ia /\ I64 ib /\ I64 ic /\ I64 fp /\ I64 ap) :
  Calls Tryz.prog 148 #[.pointer (some ⟨b, 0, none⟩), .agg #[.int .i64 4, .int .i64 ia, .int .i64 ib, .int .i64 ic], .int .i64 fp, .int .i64 ap] w (CeR p 4 ia ib ic fp ap w) := by
 have hmx : Tryz.prog.follows .mixedOrders = true := by kernel_rfl
 obtain ⟨hia, hib, hic, hfp, hap⟩ := hb
 have HP := hid (ceP_of p b 4 ia ib ic w hp)
 have HC0 := hid (fun W h => add_any p b fp ia W h3 h4 h hfp.1 hfp.2 hia.1 hia.2)
 have HC1 := hid (fun W h => add_any p b fp ib W h3 h4 h hfp.1 hfp.2 hib.1 hib.2)
 have HC2 := hid (fun W h => add_any p b fp ic W h3 h4 h hfp.1 hfp.2 hic.1 hic.2)
 obtain ⟨W0, hW0⟩ := exE ((w.alloc (.cells #[.int .i64 4, .int .i64 ia, .int .i64 ib, .int .i64 ic] 180)).alloc (.cells #[.int .i64 0, .int .i64 0, .int .i64 0] 183))
 rw [<- hW0] at HP
 have hpc := HP.out.hp
 have j1 := HP.out.i1
 have j2 := HP.out.i2
 have j3 := HP.out.i3
 have y0 : ∀ i, W0.frozen? ⟨w.heap.size + 1, i, none⟩ = false := (row3_of HP.out.r).frozen
 have z0 : W0.cell? ⟨w.heap.size + 1, 0, none⟩ = some (.int .i64 0) := by simp [World.cell?, HP.out.r]
 have z1 : W0.cell? ⟨w.heap.size + 1, 1, none⟩ = some (.int .i64 0) := by simp [World.cell?, HP.out.r]
 have z2 : W0.cell? ⟨w.heap.size + 1, 2, none⟩ = some (.int .i64 0) := by simp [World.cell?, HP.out.r]
 clear hp hia hib hic hfp hap h3 h4
 go_enter Tryz.func148, Tryz.ntmps148
 go_wp2_with fail
 rw [<- hW0]
 clear hW0
 refine wp_region_still_tail 16 hmx (by kernel_rfl) ?_
 simp only [List.take_succ_cons, List.take_zero, List.drop_succ_cons, List.drop_zero]
 repeat still_step
 still_call (HC0.out _ hpc)
 repeat still_step
 still_call (HC1.out _ hpc)
 repeat still_step
 still_call (HC2.out _ hpc)
 repeat still_step
 refine wpStill_nil ?_
 go_wp2_with fail
 (try simp only [Exit.inBlock, Exit.then])
 refine bodyPost_ret (results_cell_row rfl _ _ (w.heap.size + 1) 183 #[.int .i64 ((fp + ia) % (p : Int)), .int .i64 ((fp + ib) % (p : Int)), .int .i64 ((fp + ic) % (p : Int))] (0, 0) _ rfl (put3_heap HP.out.r (.int .i64 ((fp + ia) % (p : Int))) (.int .i64 ((fp + ib) % (p : Int))) (.int .i64 ((fp + ic) % (p : Int)))) Tryz.underlying183 rfl (by kernel_rfl)) rfl ?_
 refine ⟨by simp [cel3], (put3_below HP.out.bel (by omega) _ _ _).drew⟩
theorem pcells_6 (p b : Nat) (ia ib ic fp ap : Int) (w : World) (h3 : 3 <= p) (h4 : p <= 2147483647) (hp : w.cell? ⟨b, 0, none⟩ = some (.int .i64 p)) (hb : I64 ia /\ I64 ib /\ I64 ic /\ I64 fp /\ I64 ap) :
  Calls Tryz.prog 148 #[.pointer (some ⟨b, 0, none⟩), .agg #[.int .i64 6, .int .i64 ia, .int .i64 ib, .int .i64 ic], .int .i64 fp, .int .i64 ap] w (CeR p 6 ia ib ic fp ap w) := by
 have hmx : Tryz.prog.follows .mixedOrders = true := by kernel_rfl
 obtain ⟨hia, hib, hic, hfp, hap⟩ := hb
 have HP := hid (ceP_of p b 6 ia ib ic w hp)
 have HC0 := hid (fun W h => add_any p b fp ia W h3 h4 h hfp.1 hfp.2 hia.1 hia.2)
 have HC1 := hid (fun W h => add_any p b fp ib W h3 h4 h hfp.1 hfp.2 hib.1 hib.2)
 have HC2 := hid (fun W h => add_any p b fp ic W h3 h4 h hfp.1 hfp.2 hic.1 hic.2)
 obtain ⟨W0, hW0⟩ := exE ((w.alloc (.cells #[.int .i64 6, .int .i64 ia, .int .i64 ib, .int .i64 ic] 180)).alloc (.cells #[.int .i64 0, .int .i64 0, .int .i64 0] 183))
 rw [<- hW0] at HP
 have hpc := HP.out.hp
 have j1 := HP.out.i1
 have j2 := HP.out.i2
 have j3 := HP.out.i3
 have y0 : ∀ i, W0.frozen? ⟨w.heap.size + 1, i, none⟩ = false := (row3_of HP.out.r).frozen
 have z0 : W0.cell? ⟨w.heap.size + 1, 0, none⟩ = some (.int .i64 0) := by simp [World.cell?, HP.out.r]
 have z1 : W0.cell? ⟨w.heap.size + 1, 1, none⟩ = some (.int .i64 0) := by simp [World.cell?, HP.out.r]
 have z2 : W0.cell? ⟨w.heap.size + 1, 2, none⟩ = some (.int .i64 0) := by simp [World.cell?, HP.out.r]
 clear hp hia hib hic hfp hap h3 h4
 go_enter Tryz.func148, Tryz.ntmps148
 go_wp2_with fail
 rw [<- hW0]
 clear hW0
 refine wp_region_still_tail 16 hmx (by kernel_rfl) ?_
 simp only [List.take_succ_cons, List.take_zero, List.drop_succ_cons, List.drop_zero]
 repeat still_step
 still_call (HC0.out _ hpc)
 repeat still_step
 still_call (HC1.out _ hpc)
 repeat still_step
 still_call (HC2.out _ hpc)
 repeat still_step
 refine wpStill_nil ?_
 go_wp2_with fail
 (try simp only [Exit.inBlock, Exit.then])
 refine bodyPost_ret (results_cell_row rfl _ _ (w.heap.size + 1) 183 #[.int .i64 ((fp + ia) % (p : Int)), .int .i64 ((fp + ib) % (p : Int)), .int .i64 ((fp + ic) % (p : Int))] (0, 0) _ rfl (put3_heap HP.out.r (.int .i64 ((fp + ia) % (p : Int))) (.int .i64 ((fp + ib) % (p : Int))) (.int .i64 ((fp + ic) % (p : Int)))) Tryz.underlying183 rfl (by kernel_rfl)) rfl ?_
 refine ⟨by simp [cel3], (put3_below HP.out.bel (by omega) _ _ _).drew⟩
theorem pcells_7 (p b : Nat) (ia ib ic fp ap : Int) (w : World) (h3 : 3 <= p) (h4 : p <= 2147483647) (hp : w.cell? ⟨b, 0, none⟩ = some (.int .i64 p)) (hb : I64 ia /\ I64 ib /\ I64 ic /\ I64 fp /\ I64 ap) :
  Calls Tryz.prog 148 #[.pointer (some ⟨b, 0, none⟩), .agg #[.int .i64 7, .int .i64 ia, .int .i64 ib, .int .i64 ic], .int .i64 fp, .int .i64 ap] w (CeR p 7 ia ib ic fp ap w) := by
 have hmx : Tryz.prog.follows .mixedOrders = true := by kernel_rfl
 obtain ⟨hia, hib, hic, hfp, hap⟩ := hb
 have HP := hid (ceP_of p b 7 ia ib ic w hp)
 have HC0 := hid (fun W h => add_any p b fp ia W h3 h4 h hfp.1 hfp.2 hia.1 hia.2)
 have HC1 := hid (fun W h => add_any p b fp ib W h3 h4 h hfp.1 hfp.2 hib.1 hib.2)
 obtain ⟨W0, hW0⟩ := exE ((w.alloc (.cells #[.int .i64 7, .int .i64 ia, .int .i64 ib, .int .i64 ic] 180)).alloc (.cells #[.int .i64 0, .int .i64 0, .int .i64 0] 183))
 rw [<- hW0] at HP
 have hpc := HP.out.hp
 have j1 := HP.out.i1
 have j2 := HP.out.i2
 have j3 := HP.out.i3
 have y0 : ∀ i, W0.frozen? ⟨w.heap.size + 1, i, none⟩ = false := (row3_of HP.out.r).frozen
 have z0 : W0.cell? ⟨w.heap.size + 1, 0, none⟩ = some (.int .i64 0) := by simp [World.cell?, HP.out.r]
 have z1 : W0.cell? ⟨w.heap.size + 1, 1, none⟩ = some (.int .i64 0) := by simp [World.cell?, HP.out.r]
 have z2 : W0.cell? ⟨w.heap.size + 1, 2, none⟩ = some (.int .i64 0) := by simp [World.cell?, HP.out.r]
 clear hp hia hib hic hfp hap h3 h4
 go_enter Tryz.func148, Tryz.ntmps148
 go_wp2_with fail
 rw [<- hW0]
 clear hW0
 refine wp_region_still_tail 11 hmx (by kernel_rfl) ?_
 simp only [List.take_succ_cons, List.take_zero, List.drop_succ_cons, List.drop_zero]
 repeat still_step
 still_call (HC0.out _ hpc)
 repeat still_step
 still_call (HC1.out _ hpc)
 repeat still_step
 refine wpStill_nil ?_
 go_wp2_with fail
 (try simp only [Exit.inBlock, Exit.then])
 refine bodyPost_ret (results_cell_row rfl _ _ (w.heap.size + 1) 183 #[.int .i64 ((fp + ia) % (p : Int)), .int .i64 ((fp + ib) % (p : Int)), .int .i64 0] (0, 0) _ rfl (put3_heap HP.out.r (.int .i64 ((fp + ia) % (p : Int))) (.int .i64 ((fp + ib) % (p : Int))) (.int .i64 0)) Tryz.underlying183 rfl (by kernel_rfl)) rfl ?_
 refine ⟨by simp [cel3], (put3_below HP.out.bel (by omega) _ _ _).drew⟩
theorem pcells_5 (p b : Nat) (ia ib ic fp ap : Int) (w : World) (h3 : 3 <= p) (h4 : p <= 2147483647) (hp : w.cell? ⟨b, 0, none⟩ = some (.int .i64 p)) (hb : I64 ia /\ I64 ib /\ I64 ic /\ I64 fp /\ I64 ap) :
  Calls Tryz.prog 148 #[.pointer (some ⟨b, 0, none⟩), .agg #[.int .i64 5, .int .i64 ia, .int .i64 ib, .int .i64 ic], .int .i64 fp, .int .i64 ap] w (CeR p 5 ia ib ic fp ap w) := by
 obtain ⟨hia, hib, hic, hfp, hap⟩ := hb
 have HP := hid (ceP_of p b 5 ia ib ic w hp)
 have HC0 := hid (fun W h => add_any p b fp ia W h3 h4 h hfp.1 hfp.2 hia.1 hia.2)
 obtain ⟨W0, hW0⟩ := exE ((w.alloc (.cells #[.int .i64 5, .int .i64 ia, .int .i64 ib, .int .i64 ic] 180)).alloc (.cells #[.int .i64 0, .int .i64 0, .int .i64 0] 183))
 rw [<- hW0] at HP
 have hpc := HP.out.hp
 have j1 := HP.out.i1
 have j2 := HP.out.i2
 have j3 := HP.out.i3
 have y0 : ∀ i, W0.frozen? ⟨w.heap.size + 1, i, none⟩ = false := (row3_of HP.out.r).frozen
 have z0 : W0.cell? ⟨w.heap.size + 1, 0, none⟩ = some (.int .i64 0) := by simp [World.cell?, HP.out.r]
 have z1 : W0.cell? ⟨w.heap.size + 1, 1, none⟩ = some (.int .i64 0) := by simp [World.cell?, HP.out.r]
 have z2 : W0.cell? ⟨w.heap.size + 1, 2, none⟩ = some (.int .i64 0) := by simp [World.cell?, HP.out.r]
 clear hp hia hib hic hfp hap h3 h4
 go_enter Tryz.func148, Tryz.ntmps148
 go_wp2_with fail
 rw [<- hW0]
 clear hW0
 refine (HC0.out _ hpc).mono ?_
 rintro e w2 ⟨rfl, hw2⟩
 rw [hw2]
 clear hw2 w2
 go_wp2_with fail
 (try simp only [Exit.inBlock, Exit.then])
 refine bodyPost_ret (results_cell_row rfl _ _ (w.heap.size + 1) 183 #[.int .i64 ((fp + ia) % (p : Int)), .int .i64 0, .int .i64 0] (0, 0) _ rfl (put3_heap HP.out.r (.int .i64 ((fp + ia) % (p : Int))) (.int .i64 0) (.int .i64 0)) Tryz.underlying183 rfl (by kernel_rfl)) rfl ?_
 refine ⟨by simp [cel3], put3_below HP.out.bel (by omega) _ _ _⟩
theorem pcells_9 (p b : Nat) (ia ib ic fp ap : Int) (w : World) (h3 : 3 <= p) (h4 : p <= 2147483647) (hp : w.cell? ⟨b, 0, none⟩ = some (.int .i64 p)) (hb : I64 ia /\ I64 ib /\ I64 ic /\ I64 fp /\ I64 ap) :
  Calls Tryz.prog 148 #[.pointer (some ⟨b, 0, none⟩), .agg #[.int .i64 9, .int .i64 ia, .int .i64 ib, .int .i64 ic], .int .i64 fp, .int .i64 ap] w (CeR p 9 ia ib ic fp ap w) := by
 obtain ⟨hia, hib, hic, hfp, hap⟩ := hb
 have HP := hid (ceP_of p b 9 ia ib ic w hp)
 have HC0 := hid (fun W h => add_any p b fp ia W h3 h4 h hfp.1 hfp.2 hia.1 hia.2)
 obtain ⟨W0, hW0⟩ := exE ((w.alloc (.cells #[.int .i64 9, .int .i64 ia, .int .i64 ib, .int .i64 ic] 180)).alloc (.cells #[.int .i64 0, .int .i64 0, .int .i64 0] 183))
 rw [<- hW0] at HP
 have hpc := HP.out.hp
 have j1 := HP.out.i1
 have j2 := HP.out.i2
 have j3 := HP.out.i3
 have y0 : ∀ i, W0.frozen? ⟨w.heap.size + 1, i, none⟩ = false := (row3_of HP.out.r).frozen
 have z0 : W0.cell? ⟨w.heap.size + 1, 0, none⟩ = some (.int .i64 0) := by simp [World.cell?, HP.out.r]
 have z1 : W0.cell? ⟨w.heap.size + 1, 1, none⟩ = some (.int .i64 0) := by simp [World.cell?, HP.out.r]
 have z2 : W0.cell? ⟨w.heap.size + 1, 2, none⟩ = some (.int .i64 0) := by simp [World.cell?, HP.out.r]
 clear hp hia hib hic hfp hap h3 h4
 go_enter Tryz.func148, Tryz.ntmps148
 go_wp2_with fail
 rw [<- hW0]
 clear hW0
 refine (HC0.out _ hpc).mono ?_
 rintro e w2 ⟨rfl, hw2⟩
 rw [hw2]
 clear hw2 w2
 go_wp2_with fail
 (try simp only [Exit.inBlock, Exit.then])
 refine bodyPost_ret (results_cell_row rfl _ _ (w.heap.size + 1) 183 #[.int .i64 ((fp + ia) % (p : Int)), .int .i64 0, .int .i64 0] (0, 0) _ rfl (put3_heap HP.out.r (.int .i64 ((fp + ia) % (p : Int))) (.int .i64 0) (.int .i64 0)) Tryz.underlying183 rfl (by kernel_rfl)) rfl ?_
 refine ⟨by simp [cel3], put3_below HP.out.bel (by omega) _ _ _⟩
theorem pcells_12 (p b : Nat) (ia ib ic fp ap : Int) (w : World) (h3 : 3 <= p) (h4 : p <= 2147483647) (hp : w.cell? ⟨b, 0, none⟩ = some (.int .i64 p)) (hb : I64 ia /\ I64 ib /\ I64 ic /\ I64 fp /\ I64 ap) :
  Calls Tryz.prog 148 #[.pointer (some ⟨b, 0, none⟩), .agg #[.int .i64 12, .int .i64 ia, .int .i64 ib, .int .i64 ic], .int .i64 fp, .int .i64 ap] w (CeR p 12 ia ib ic fp ap w) := by
 obtain ⟨hia, hib, hic, hfp, hap⟩ := hb
 have HP := hid (ceP_of p b 12 ia ib ic w hp)
 have HC0 := hid (fun W h => add_any p b fp ia W h3 h4 h hfp.1 hfp.2 hia.1 hia.2)
 obtain ⟨W0, hW0⟩ := exE ((w.alloc (.cells #[.int .i64 12, .int .i64 ia, .int .i64 ib, .int .i64 ic] 180)).alloc (.cells #[.int .i64 0, .int .i64 0, .int .i64 0] 183))
 rw [<- hW0] at HP
 have hpc := HP.out.hp
 have j1 := HP.out.i1
 have j2 := HP.out.i2
 have j3 := HP.out.i3
 have y0 : ∀ i, W0.frozen? ⟨w.heap.size + 1, i, none⟩ = false := (row3_of HP.out.r).frozen
 have z0 : W0.cell? ⟨w.heap.size + 1, 0, none⟩ = some (.int .i64 0) := by simp [World.cell?, HP.out.r]
 have z1 : W0.cell? ⟨w.heap.size + 1, 1, none⟩ = some (.int .i64 0) := by simp [World.cell?, HP.out.r]
 have z2 : W0.cell? ⟨w.heap.size + 1, 2, none⟩ = some (.int .i64 0) := by simp [World.cell?, HP.out.r]
 clear hp hia hib hic hfp hap h3 h4
 go_enter Tryz.func148, Tryz.ntmps148
 go_wp2_with fail
 rw [<- hW0]
 clear hW0
 refine (HC0.out _ hpc).mono ?_
 rintro e w2 ⟨rfl, hw2⟩
 rw [hw2]
 clear hw2 w2
 go_wp2_with fail
 (try simp only [Exit.inBlock, Exit.then])
 refine bodyPost_ret (results_cell_row rfl _ _ (w.heap.size + 1) 183 #[.int .i64 ((fp + ia) % (p : Int)), .int .i64 0, .int .i64 0] (0, 0) _ rfl (put3_heap HP.out.r (.int .i64 ((fp + ia) % (p : Int))) (.int .i64 0) (.int .i64 0)) Tryz.underlying183 rfl (by kernel_rfl)) rfl ?_
 refine ⟨by simp [cel3], put3_below HP.out.bel (by omega) _ _ _⟩
theorem pcells_0 (p b : Nat) (ia ib ic fp ap : Int) (w : World) (h3 : 3 <= p) (h4 : p <= 2147483647) (hp : w.cell? ⟨b, 0, none⟩ = some (.int .i64 p)) (hb : I64 ia /\ I64 ib /\ I64 ic /\ I64 fp /\ I64 ap) :
  Calls Tryz.prog 148 #[.pointer (some ⟨b, 0, none⟩), .agg #[.int .i64 0, .int .i64 ia, .int .i64 ib, .int .i64 ic], .int .i64 fp, .int .i64 ap] w (CeR p 0 ia ib ic fp ap w) := by
 obtain ⟨hia, hib, hic, hfp, hap⟩ := hb
 have HP := hid (ceP_of p b 0 ia ib ic w hp)
 have HC0 := hid (fun W h => add_any p b fp ia W h3 h4 h hfp.1 hfp.2 hia.1 hia.2)
 obtain ⟨W0, hW0⟩ := exE ((w.alloc (.cells #[.int .i64 0, .int .i64 ia, .int .i64 ib, .int .i64 ic] 180)).alloc (.cells #[.int .i64 0, .int .i64 0, .int .i64 0] 183))
 rw [<- hW0] at HP
 have hpc := HP.out.hp
 have j1 := HP.out.i1
 have j2 := HP.out.i2
 have j3 := HP.out.i3
 have y0 : ∀ i, W0.frozen? ⟨w.heap.size + 1, i, none⟩ = false := (row3_of HP.out.r).frozen
 have z0 : W0.cell? ⟨w.heap.size + 1, 0, none⟩ = some (.int .i64 0) := by simp [World.cell?, HP.out.r]
 have z1 : W0.cell? ⟨w.heap.size + 1, 1, none⟩ = some (.int .i64 0) := by simp [World.cell?, HP.out.r]
 have z2 : W0.cell? ⟨w.heap.size + 1, 2, none⟩ = some (.int .i64 0) := by simp [World.cell?, HP.out.r]
 clear hp hia hib hic hfp hap h3 h4
 go_enter Tryz.func148, Tryz.ntmps148
 go_wp2_with fail
 rw [<- hW0]
 clear hW0
 refine (HC0.out _ hpc).mono ?_
 rintro e w2 ⟨rfl, hw2⟩
 rw [hw2]
 clear hw2 w2
 go_wp2_with fail
 (try simp only [Exit.inBlock, Exit.then])
 refine bodyPost_ret (results_cell_row rfl _ _ (w.heap.size + 1) 183 #[.int .i64 ((fp + ia) % (p : Int)), .int .i64 0, .int .i64 0] (0, 0) _ rfl (put3_heap HP.out.r (.int .i64 ((fp + ia) % (p : Int))) (.int .i64 0) (.int .i64 0)) Tryz.underlying183 rfl (by kernel_rfl)) rfl ?_
 refine ⟨by simp [cel3], put3_below HP.out.bel (by omega) _ _ _⟩
theorem pcells_10 (p b : Nat) (ia ib ic fp ap : Int) (w : World) (h3 : 3 <= p) (h4 : p <= 2147483647) (hp : w.cell? ⟨b, 0, none⟩ = some (.int .i64 p)) (hb : I64 ia /\ I64 ib /\ I64 ic /\ I64 fp /\ I64 ap) :
  Calls Tryz.prog 148 #[.pointer (some ⟨b, 0, none⟩), .agg #[.int .i64 10, .int .i64 ia, .int .i64 ib, .int .i64 ic], .int .i64 fp, .int .i64 ap] w (CeR p 10 ia ib ic fp ap w) := by
 obtain ⟨hia, hib, hic, hfp, hap⟩ := hb
 have HP := hid (ceP_of p b 10 ia ib ic w hp)
 have HC0 : Hid (∀ W : World, W.cell? ⟨b, 0, none⟩ = some (.int .i64 p) -> Calls Tryz.prog 79 #[.pointer (some ⟨b, 0, none⟩), .int .i64 ap] W fun e w' => e = .returned (.int .i64 (ap % (p : Int))) /\ w' = W) := fun W h => of_any p b _ W h3 h4 h (hap.1) (hap.2)
 have HC1 := hid (fun W h => add_any p b ap 1 W h3 h4 h hap.1 hap.2 (by decide) (by decide))
 obtain ⟨W0, hW0⟩ := exE ((w.alloc (.cells #[.int .i64 10, .int .i64 ia, .int .i64 ib, .int .i64 ic] 180)).alloc (.cells #[.int .i64 0, .int .i64 0, .int .i64 0] 183))
 rw [<- hW0] at HP
 have hpc := HP.out.hp
 have j1 := HP.out.i1
 have j2 := HP.out.i2
 have j3 := HP.out.i3
 have y0 : ∀ i, W0.frozen? ⟨w.heap.size + 1, i, none⟩ = false := (row3_of HP.out.r).frozen
 have z0 : W0.cell? ⟨w.heap.size + 1, 0, none⟩ = some (.int .i64 0) := by simp [World.cell?, HP.out.r]
 have z1 : W0.cell? ⟨w.heap.size + 1, 1, none⟩ = some (.int .i64 0) := by simp [World.cell?, HP.out.r]
 have z2 : W0.cell? ⟨w.heap.size + 1, 2, none⟩ = some (.int .i64 0) := by simp [World.cell?, HP.out.r]
 clear hp hia hib hic hfp hap h3 h4
 go_enter Tryz.func148, Tryz.ntmps148
 go_wp2_with fail
 rw [<- hW0]
 clear hW0
 refine (HC0.out _ hpc).mono ?_
 rintro e w2 ⟨rfl, hw2⟩
 rw [hw2]
 clear hw2 w2
 go_wp2_with fail
 refine (HC1.out _ hpc).mono ?_
 rintro e w2 ⟨rfl, hw2⟩
 rw [hw2]
 clear hw2 w2
 go_wp2_with fail
 (try simp only [Exit.inBlock, Exit.then])
 refine bodyPost_ret (results_cell_row rfl _ _ (w.heap.size + 1) 183 #[.int .i64 (ap % (p : Int)), .int .i64 ((ap + 1) % (p : Int)), .int .i64 0] (0, 0) _ rfl (put3_heap HP.out.r (.int .i64 (ap % (p : Int))) (.int .i64 ((ap + 1) % (p : Int))) (.int .i64 0)) Tryz.underlying183 rfl (by kernel_rfl)) rfl ?_
 refine ⟨by simp [cel3], put3_below HP.out.bel (by omega) _ _ _⟩
theorem pcells_11 (p b : Nat) (ia ib ic fp ap : Int) (w : World) (h3 : 3 <= p) (h4 : p <= 2147483647) (hp : w.cell? ⟨b, 0, none⟩ = some (.int .i64 p)) (hb : I64 ia /\ I64 ib /\ I64 ic /\ I64 fp /\ I64 ap) :
  Calls Tryz.prog 148 #[.pointer (some ⟨b, 0, none⟩), .agg #[.int .i64 11, .int .i64 ia, .int .i64 ib, .int .i64 ic], .int .i64 fp, .int .i64 ap] w (CeR p 11 ia ib ic fp ap w) := by
 have hmx : Tryz.prog.follows .mixedOrders = true := by kernel_rfl
 obtain ⟨hia, hib, hic, hfp, hap⟩ := hb
 have HP := hid (ceP_of p b 11 ia ib ic w hp)
 have HC0 := hid (fun W h => sub_any p b fp 2 W h3 h4 h hfp.1 hfp.2 (by decide) (by decide))
 have HC1 := hid (fun W h => sub_any p b fp 1 W h3 h4 h hfp.1 hfp.2 (by decide) (by decide))
 have HC2 := hid (fun W h => add_any p b fp ia W h3 h4 h hfp.1 hfp.2 hia.1 hia.2)
 obtain ⟨W0, hW0⟩ := exE ((w.alloc (.cells #[.int .i64 11, .int .i64 ia, .int .i64 ib, .int .i64 ic] 180)).alloc (.cells #[.int .i64 0, .int .i64 0, .int .i64 0] 183))
 rw [<- hW0] at HP
 have hpc := HP.out.hp
 have j1 := HP.out.i1
 have j2 := HP.out.i2
 have j3 := HP.out.i3
 have y0 : ∀ i, W0.frozen? ⟨w.heap.size + 1, i, none⟩ = false := (row3_of HP.out.r).frozen
 have z0 : W0.cell? ⟨w.heap.size + 1, 0, none⟩ = some (.int .i64 0) := by simp [World.cell?, HP.out.r]
 have z1 : W0.cell? ⟨w.heap.size + 1, 1, none⟩ = some (.int .i64 0) := by simp [World.cell?, HP.out.r]
 have z2 : W0.cell? ⟨w.heap.size + 1, 2, none⟩ = some (.int .i64 0) := by simp [World.cell?, HP.out.r]
 clear hp hia hib hic hfp hap h3 h4
 go_enter Tryz.func148, Tryz.ntmps148
 go_wp2_with fail
 rw [<- hW0]
 clear hW0
 refine wp_region_still_tail 12 hmx (by kernel_rfl) ?_
 simp only [List.take_succ_cons, List.take_zero, List.drop_succ_cons, List.drop_zero]
 repeat still_step
 still_call (HC0.out _ hpc)
 repeat still_step
 still_call (HC1.out _ hpc)
 repeat still_step
 still_call (HC2.out _ hpc)
 repeat still_step
 refine wpStill_nil ?_
 go_wp2_with fail
 (try simp only [Exit.inBlock, Exit.then])
 refine bodyPost_ret (results_cell_row rfl _ _ (w.heap.size + 1) 183 #[.int .i64 ((fp - 2) % (p : Int)), .int .i64 ((fp - 1) % (p : Int)), .int .i64 ((fp + ia) % (p : Int))] (0, 0) _ rfl (put3_heap HP.out.r (.int .i64 ((fp - 2) % (p : Int))) (.int .i64 ((fp - 1) % (p : Int))) (.int .i64 ((fp + ia) % (p : Int)))) Tryz.underlying183 rfl (by kernel_rfl)) rfl ?_
 refine ⟨by simp [cel3], (put3_below HP.out.bel (by omega) _ _ _).drew⟩
theorem pcells_13 (p b : Nat) (ia ib ic fp ap : Int) (w : World) (h3 : 3 <= p) (h4 : p <= 2147483647) (hp : w.cell? ⟨b, 0, none⟩ = some (.int .i64 p)) (hb : I64 ia /\ I64 ib /\ I64 ic /\ I64 fp /\ I64 ap) :
  Calls Tryz.prog 148 #[.pointer (some ⟨b, 0, none⟩), .agg #[.int .i64 13, .int .i64 ia, .int .i64 ib, .int .i64 ic], .int .i64 fp, .int .i64 ap] w (CeR p 13 ia ib ic fp ap w) := by
 have hmx : Tryz.prog.follows .mixedOrders = true := by kernel_rfl
 obtain ⟨hia, hib, hic, hfp, hap⟩ := hb
 obtain ⟨m2, hm2⟩ := exE ((ap + 2) % (p : Int))
 have HM2 := hid hm2
 have hma : I64 m2 := by rw [hm2]; have := emod_bounds (ap + 2) p h3; exact ⟨by omega, by omega⟩
 have HP := hid (ceP_of p b 13 ia ib ic w hp)
 have HC0 := hid (fun W h => add_any p b fp ia W h3 h4 h hfp.1 hfp.2 hia.1 hia.2)
 have HC1 : Hid (∀ W : World, W.cell? ⟨b, 0, none⟩ = some (.int .i64 p) -> Calls Tryz.prog 92 #[.pointer (some ⟨b, 0, none⟩), .int .i64 ap, .int .i64 2] W fun e w' => e = .returned (.int .i64 m2) /\ w' = W) := fun W h => by rw [hm2]; exact add_any p b _ _ W h3 h4 h hap.1 hap.2 (by decide) (by decide)
 have HC2 := hid (fun W h => add_any p b m2 ib W h3 h4 h hma.1 hma.2 hib.1 hib.2)
 obtain ⟨W0, hW0⟩ := exE ((w.alloc (.cells #[.int .i64 13, .int .i64 ia, .int .i64 ib, .int .i64 ic] 180)).alloc (.cells #[.int .i64 0, .int .i64 0, .int .i64 0] 183))
 rw [<- hW0] at HP
 have hpc := HP.out.hp
 have j1 := HP.out.i1
 have j2 := HP.out.i2
 have j3 := HP.out.i3
 have y0 : ∀ i, W0.frozen? ⟨w.heap.size + 1, i, none⟩ = false := (row3_of HP.out.r).frozen
 have z0 : W0.cell? ⟨w.heap.size + 1, 0, none⟩ = some (.int .i64 0) := by simp [World.cell?, HP.out.r]
 have z1 : W0.cell? ⟨w.heap.size + 1, 1, none⟩ = some (.int .i64 0) := by simp [World.cell?, HP.out.r]
 have z2 : W0.cell? ⟨w.heap.size + 1, 2, none⟩ = some (.int .i64 0) := by simp [World.cell?, HP.out.r]
 clear hp hia hib hic hfp hap h3 h4 hma hm2
 go_enter Tryz.func148, Tryz.ntmps148
 go_wp2_with fail
 rw [<- hW0]
 clear hW0
 refine wp_region_still_tail 13 hmx (by kernel_rfl) ?_
 simp only [List.take_succ_cons, List.take_zero, List.drop_succ_cons, List.drop_zero]
 repeat still_step
 still_call (HC0.out _ hpc)
 repeat still_step
 still_call (HC1.out _ hpc)
 repeat still_step
 still_call (HC2.out _ hpc)
 repeat still_step
 refine wpStill_nil ?_
 go_wp2_with fail
 (try simp only [Exit.inBlock, Exit.then])
 refine bodyPost_ret (results_cell_row rfl _ _ (w.heap.size + 1) 183 #[.int .i64 ((fp + ia) % (p : Int)), .int .i64 ((m2 + ib) % (p : Int)), .int .i64 0] (0, 0) _ rfl (put3_heap HP.out.r (.int .i64 ((fp + ia) % (p : Int))) (.int .i64 ((m2 + ib) % (p : Int))) (.int .i64 0)) Tryz.underlying183 rfl (by kernel_rfl)) rfl ?_
 refine ⟨by rw [HM2.out]; simp [cel3], (put3_below HP.out.bel (by omega) _ _ _).drew⟩
theorem pcells_8 (p b : Nat) (ia ib ic fp ap : Int) (w : World) (hp : w.cell? ⟨b, 0, none⟩ = some (.int .i64 p)) :
  Calls Tryz.prog 148 #[.pointer (some ⟨b, 0, none⟩), .agg #[.int .i64 8, .int .i64 ia, .int .i64 ib, .int .i64 ic], .int .i64 fp, .int .i64 ap] w (CeR p 8 ia ib ic fp ap w) := by
 have HP := hid (ceP_of p b 8 ia ib ic w hp)
 obtain ⟨W0, hW0⟩ := exE ((w.alloc (.cells #[.int .i64 8, .int .i64 ia, .int .i64 ib, .int .i64 ic] 180)).alloc (.cells #[.int .i64 0, .int .i64 0, .int .i64 0] 183))
 rw [<- hW0] at HP
 clear hp
 go_enter Tryz.func148, Tryz.ntmps148
 go_wp2_with fail
 rw [<- hW0]
 clear hW0
 (try simp only [Exit.inBlock, Exit.then])
 refine bodyPost_ret (results_cell_row rfl _ _ (w.heap.size + 1) 183 #[.int .i64 0, .int .i64 0, .int .i64 0] (0, 0) _ rfl HP.out.r Tryz.underlying183 rfl (by kernel_rfl)) rfl ?_
 exact ⟨by simp [cel3], HP.out.bel⟩
theorem pcells_x (p b : Nat) (op : Int) (ia ib ic fp ap : Int) (w : World) (hp : w.cell? ⟨b, 0, none⟩ = some (.int .i64 p)) (hno : op ≠ 0 /\ op ≠ 1 /\ op ≠ 2 /\ op ≠ 3 /\ op ≠ 4 /\ op ≠ 5 /\ op ≠ 6 /\ op ≠ 7 /\ op ≠ 9 /\ op ≠ 10 /\ op ≠ 11 /\ op ≠ 12 /\ op ≠ 13) :
  Calls Tryz.prog 148 #[.pointer (some ⟨b, 0, none⟩), .agg #[.int .i64 op, .int .i64 ia, .int .i64 ib, .int .i64 ic], .int .i64 fp, .int .i64 ap] w (CeR p op ia ib ic fp ap w) := by
 have q0 : (op == 0) = false := by rw [beq_eq_false_iff_ne]; omega
 have q1 : (op == 1) = false := by rw [beq_eq_false_iff_ne]; omega
 have q2 : (op == 2) = false := by rw [beq_eq_false_iff_ne]; omega
 have q3 : (op == 3) = false := by rw [beq_eq_false_iff_ne]; omega
 have q4 : (op == 4) = false := by rw [beq_eq_false_iff_ne]; omega
 have q5 : (op == 5) = false := by rw [beq_eq_false_iff_ne]; omega
 have q6 : (op == 6) = false := by rw [beq_eq_false_iff_ne]; omega
 have q7 : (op == 7) = false := by rw [beq_eq_false_iff_ne]; omega
 have q9 : (op == 9) = false := by rw [beq_eq_false_iff_ne]; omega
 have q10 : (op == 10) = false := by rw [beq_eq_false_iff_ne]; omega
 have q11 : (op == 11) = false := by rw [beq_eq_false_iff_ne]; omega
 have q12 : (op == 12) = false := by rw [beq_eq_false_iff_ne]; omega
 have q13 : (op == 13) = false := by rw [beq_eq_false_iff_ne]; omega
 have HP := hid (ceP_of p b op ia ib ic w hp)
 obtain ⟨W0, hW0⟩ := exE ((w.alloc (.cells #[.int .i64 op, .int .i64 ia, .int .i64 ib, .int .i64 ic] 180)).alloc (.cells #[.int .i64 0, .int .i64 0, .int .i64 0] 183))
 rw [<- hW0] at HP
 clear hp
 go_enter Tryz.func148, Tryz.ntmps148
 go_wp2_with fail
 rw [<- hW0]
 clear hW0
 (try simp only [Exit.inBlock, Exit.then])
 refine bodyPost_ret (results_cell_row rfl _ _ (w.heap.size + 1) 183 #[.int .i64 0, .int .i64 0, .int .i64 0] (0, 0) _ rfl HP.out.r Tryz.underlying183 rfl (by kernel_rfl)) rfl ?_
 exact ⟨by simp [cel3, hno], HP.out.bel⟩
section
variable {P : Program} {ops : Array Oper} {Q : Exit -> Act -> World -> Prop} {md : Region.Mode} {S : World -> Prop}
end
end Go.Proofs.YtjlngcmkgkiplaaGreatDoor
