/- Package source: Eval. Package source: Parse and Eval, as laws ask for them. -/
import Derived.Test.YtlgcmeachjjmgajGreatDoorSsW
import Derived.Laws.ResultCell
namespace Go.Proofs.YtlgcmeachjjmgajGreatDoor
open Go.RowKit

/-- how Eval ends -/
def ElR (n m : Nat) (fuel : Int) (w : World) (r : ER Int) (e : Ending) (w' : World) : Prop := Below w.heap.size w w' ∧
  if n ≠ m then e = .returned (.tuple #[.agg #[.int .i64 0, .int .i64 0], .iface 72 (.int .i64 2)])
  else if fuel < 0 ∨ 16384 < fuel then e = .returned (.tuple #[.agg #[.int .i64 0, .int .i64 0], .iface 72 (.int .i64 3)])
  else match r with
  | .val x k => e = .returned (.tuple #[.agg #[.int .i64 x, .int .i64 (k : Int)], .nilIface])
  | .stop er => e = .returned (.tuple #[.agg #[.int .i64 0, .int .i64 0], .iface 72 (.int .i64 (er : Int))])
  | .out => False

set_option maxRecDepth 100000 in
set_option maxHeartbeats 2000000 in
theorem eval_size (fb pg lo i : Nat) (fs : List FnT) (g : FnT) (w : World) (hPg : PgAt lo w pg fs) (hi : nmM fs fs.length mainW = some (i : Int)) (hgi : fs[i]? = some g) (aa : Option Addr) (ca na : Nat) (fuel : Int) (r : ER Int) (hne : na ≠ g.more.length) :
    Calls Tryz.prog 11 #[.pointer (some ⟨pg, 0, none⟩), .pointer (some ⟨fb, 0, none⟩), .slice aa na ca, .int .i64 fuel] w (ElR na g.more.length fuel w r) := by
  have hbA : Below w.heap.size w (w.alloc (.cells #[.int .i64 0, .int .i64 0] 36)) := (Below.refl _ w).alloc (Nat.le_refl _) _
  have hPA : PgAt lo (w.alloc (.cells #[.int .i64 0, .int .i64 0] 36)) pg fs := by
    obtain ⟨pa, pc, B, h1, h2, h3, h4, h5, h6⟩ := hPg
    exact ⟨pa, pc, B, (hbA.block _ (Array.getElem?_eq_some_iff.1 h1).1).trans h1, h2, h3, h4, h5.below hbA, h6.below hbA⟩
  have HAR := hid (args_any lo pg i fs g _ hPA hi hgi)
  have HNE := hid hne
  have q : ((na : Int) != (g.more.length : Int)) = true := by simp; omega
  have hz : (w.alloc (.cells #[.int .i64 0, .int .i64 0] 36)).heap[w.heap.size]? = some (.cells #[.int .i64 0, .int .i64 0] 36 (0, 0)) := heap_alloc_new w _
  have HZ := hid hz
  have HBA := hid hbA
  obtain ⟨m, hm⟩ : ∃ m, m = g.more.length := ⟨_, rfl⟩
  rw [← hm] at HAR HNE q ⊢
  clear hPA hPg hi hgi hne hz hbA hm
  go_enter Tryz.func11, Tryz.ntmps11
  go_wp2_with fail
  refine HAR.out.mono ?_
  rintro e w1 ⟨rfl, hb1⟩
  have hz1 : w1.heap[w.heap.size]? = _ := (hb1.block _ (by simp)).trans HZ.out
  have HB1 := hid (HBA.out.trans (hb1.mono HBA.out.size))
  obtain ⟨C, hC⟩ : ∃ C, C = w.heap.size := ⟨_, rfl⟩
  rw [← hC] at hz1 ⊢
  have HCC := hid hC
  have c0 : w1.cell? ⟨C, 0, none⟩ = some (.int .i64 0) := by simp [World.cell?, hz1]
  have c1 : w1.cell? ⟨C, 1, none⟩ = some (.int .i64 0) := by simp [World.cell?, hz1]
  have f1 : ∀ i, w1.frozen? ⟨C, i, none⟩ = false := fun i => frozen_of_row w1 C i _ _ hz1
  have HZ1 := hid hz1
  clear hb1 HAR hz1 hC HZ HBA
  go_wp2_with fail
  obtain ⟨X, hX⟩ : ∃ X, X = (w1.setCell ⟨C, 0, none⟩ (.int .i64 0)).setCell ⟨C, 1, none⟩ (.int .i64 0) := ⟨_, rfl⟩
  rw [← hX]
  have e1 : X.heap[C]? = some (.cells #[.int .i64 0, .int .i64 0] 36 (0, 0)) := by rw [hX]; exact heap_setCell_same _ C 1 _ _ _ (heap_setCell_same _ C 0 _ _ _ HZ1.out)
  have hBX : Below w.heap.size w X := by rw [hX]; exact (HB1.out.setCell (p := ⟨C, 0, none⟩) (Nat.le_of_eq HCC.out.symm) _).setCell (p := ⟨C, 1, none⟩) (Nat.le_of_eq HCC.out.symm) _
  have j0 : X.cell? ⟨C, 0, none⟩ = some (.int .i64 0) := by simp [World.cell?, e1]
  have j1 : X.cell? ⟨C, 1, none⟩ = some (.int .i64 0) := by simp [World.cell?, e1]
  have hE : ElR na m fuel w r (.returned (.tuple #[.agg #[.int .i64 0, .int .i64 0], .iface 72 (.int .i64 2)])) X := ⟨hBX, by rw [if_pos HNE.out]⟩
  clear hX e1 hBX c0 c1 f1 HZ1
  simp [bodyPost, results, Tryz.results11, go_sem, j0, j1]
  exact hE

set_option maxRecDepth 100000 in
set_option maxHeartbeats 2000000 in
theorem eval_range (fb pg lo i : Nat) (fs : List FnT) (g : FnT) (w : World) (hPg : PgAt lo w pg fs) (hi : nmM fs fs.length mainW = some (i : Int)) (hgi : fs[i]? = some g) (aa : Option Addr) (ca na : Nat) (fuel : Int) (r : ER Int) (hne : na = g.more.length) (hfu : fuel < 0 ∨ 16384 < fuel) :
    Calls Tryz.prog 11 #[.pointer (some ⟨pg, 0, none⟩), .pointer (some ⟨fb, 0, none⟩), .slice aa na ca, .int .i64 fuel] w (ElR na g.more.length fuel w r) := by
  have hbA : Below w.heap.size w (w.alloc (.cells #[.int .i64 0, .int .i64 0] 36)) := (Below.refl _ w).alloc (Nat.le_refl _) _
  have hPA : PgAt lo (w.alloc (.cells #[.int .i64 0, .int .i64 0] 36)) pg fs := by
    obtain ⟨pa, pc, B, h1, h2, h3, h4, h5, h6⟩ := hPg
    exact ⟨pa, pc, B, (hbA.block _ (Array.getElem?_eq_some_iff.1 h1).1).trans h1, h2, h3, h4, h5.below hbA, h6.below hbA⟩
  have HAR := hid (args_any lo pg i fs g _ hPA hi hgi)
  have HNE := hid hne
  have q : ((na : Int) != (g.more.length : Int)) = false := by simp; omega
  have HFU := hid hfu
  have hz : (w.alloc (.cells #[.int .i64 0, .int .i64 0] 36)).heap[w.heap.size]? = some (.cells #[.int .i64 0, .int .i64 0] 36 (0, 0)) := heap_alloc_new w _
  have HZ := hid hz
  have HBA := hid hbA
  obtain ⟨m, hm⟩ : ∃ m, m = g.more.length := ⟨_, rfl⟩
  rw [← hm] at HAR HNE q ⊢
  clear hPA hPg hi hgi hne hz hbA hm
  go_enter Tryz.func11, Tryz.ntmps11
  go_wp2_with fail
  refine HAR.out.mono ?_
  rintro e w1 ⟨rfl, hb1⟩
  have hz1 : w1.heap[w.heap.size]? = _ := (hb1.block _ (by simp)).trans HZ.out
  have HB1 := hid (HBA.out.trans (hb1.mono HBA.out.size))
  obtain ⟨C, hC⟩ : ∃ C, C = w.heap.size := ⟨_, rfl⟩
  rw [← hC] at hz1 ⊢
  have HCC := hid hC
  have c0 : w1.cell? ⟨C, 0, none⟩ = some (.int .i64 0) := by simp [World.cell?, hz1]
  have c1 : w1.cell? ⟨C, 1, none⟩ = some (.int .i64 0) := by simp [World.cell?, hz1]
  have f1 : ∀ i, w1.frozen? ⟨C, i, none⟩ = false := fun i => frozen_of_row w1 C i _ _ hz1
  have HZ1 := hid hz1
  clear hb1 HAR hz1 hC HZ HBA
  rcases HFU.out with hl | hl
  · have ql : fuel < 0 := hl
    clear hfu
    go_wp2_with fail
    obtain ⟨X, hX⟩ : ∃ X, X = (w1.setCell ⟨C, 0, none⟩ (.int .i64 0)).setCell ⟨C, 1, none⟩ (.int .i64 0) := ⟨_, rfl⟩
    rw [← hX]
    have e1 : X.heap[C]? = some (.cells #[.int .i64 0, .int .i64 0] 36 (0, 0)) := by rw [hX]; exact heap_setCell_same _ C 1 _ _ _ (heap_setCell_same _ C 0 _ _ _ HZ1.out)
    have hBX : Below w.heap.size w X := by rw [hX]; exact (HB1.out.setCell (p := ⟨C, 0, none⟩) (Nat.le_of_eq HCC.out.symm) _).setCell (p := ⟨C, 1, none⟩) (Nat.le_of_eq HCC.out.symm) _
    have j0 : X.cell? ⟨C, 0, none⟩ = some (.int .i64 0) := by simp [World.cell?, e1]
    have j1 : X.cell? ⟨C, 1, none⟩ = some (.int .i64 0) := by simp [World.cell?, e1]
    have hE : ElR na m fuel w r (.returned (.tuple #[.agg #[.int .i64 0, .int .i64 0], .iface 72 (.int .i64 3)])) X := ⟨hBX, by rw [if_neg (by simp [HNE.out]), if_pos HFU.out]⟩
    clear hX e1 hBX c0 c1 f1 HZ1
    simp [bodyPost, results, Tryz.results11, go_sem, j0, j1]
    exact hE
  · have ql : ¬ fuel < 0 := by omega
    have ql2 : 16384 < fuel := hl
    clear hfu
    go_wp2_with fail
    obtain ⟨X, hX⟩ : ∃ X, X = (w1.setCell ⟨C, 0, none⟩ (.int .i64 0)).setCell ⟨C, 1, none⟩ (.int .i64 0) := ⟨_, rfl⟩
    rw [← hX]
    have e1 : X.heap[C]? = some (.cells #[.int .i64 0, .int .i64 0] 36 (0, 0)) := by rw [hX]; exact heap_setCell_same _ C 1 _ _ _ (heap_setCell_same _ C 0 _ _ _ HZ1.out)
    have hBX : Below w.heap.size w X := by rw [hX]; exact (HB1.out.setCell (p := ⟨C, 0, none⟩) (Nat.le_of_eq HCC.out.symm) _).setCell (p := ⟨C, 1, none⟩) (Nat.le_of_eq HCC.out.symm) _
    have j0 : X.cell? ⟨C, 0, none⟩ = some (.int .i64 0) := by simp [World.cell?, e1]
    have j1 : X.cell? ⟨C, 1, none⟩ = some (.int .i64 0) := by simp [World.cell?, e1]
    have hE : ElR na m fuel w r (.returned (.tuple #[.agg #[.int .i64 0, .int .i64 0], .iface 72 (.int .i64 3)])) X := ⟨hBX, by rw [if_neg (by simp [HNE.out]), if_pos HFU.out]⟩
    clear hX e1 hBX c0 c1 f1 HZ1
    simp [bodyPost, results, Tryz.results11, go_sem, j0, j1]
    exact hE

set_option maxRecDepth 100000 in
set_option maxHeartbeats 2000000 in
theorem eval_good (p fb pg lo i R : Nat) (h3 : 3 ≤ p) (h4 : p ≤ 2147483647) (hpr : Num.Prime p) (fs : List FnT) (g : FnT) (w : World) (hPg : PgAt lo w pg fs) (hp : w.cell? ⟨fb, 0, none⟩ = some (.int .i64 p)) (hW : ∀ g, g ∈ fs → FW g) (hi : nmM fs fs.length mainW = some (i : Int)) (hgi : fs[i]? = some g) (aa : Option Addr) (ca na fuel : Nat) (args : List Int) (hA : RowB w.heap.size w aa args) (hAb : ∀ j, -9223372036854775808 ≤ zat args j ∧ zat args j ≤ 9223372036854775807) (hna : na = args.length) (hne : na = g.more.length) (hfu : fuel ≤ 16384) (r : ER Int) (hr : r = evl p fs fuel R g.body (mnS p g.more args g.more.length) 0) (hro : r ≠ .out) :
    Calls Tryz.prog 11 #[.pointer (some ⟨pg, 0, none⟩), .pointer (some ⟨fb, 0, none⟩), .slice aa na ca, .int .i64 (fuel : Int)] w (ElR na g.more.length (fuel : Int) w r) := by
  have hbA : Below w.heap.size w (w.alloc (.cells #[.int .i64 0, .int .i64 0] 36)) := (Below.refl _ w).alloc (Nat.le_refl _) _
  have hPA : PgAt lo (w.alloc (.cells #[.int .i64 0, .int .i64 0] 36)) pg fs := by
    obtain ⟨pa, pc, B, h1, h2, h3, h4, h5, h6⟩ := hPg
    exact ⟨pa, pc, B, (hbA.block _ (Array.getElem?_eq_some_iff.1 h1).1).trans h1, h2, h3, h4, h5.below hbA, h6.below hbA⟩
  have HAR := hid (args_any lo pg i fs g _ hPA hi hgi)
  have HNE := hid hne
  have q : ((na : Int) != (g.more.length : Int)) = false := by simp; omega
  have ql : ¬ (fuel : Int) < 0 := by omega
  have ql2 : ¬ (16384 : Int) < (fuel : Int) := by omega
  have HMN := hid (fun (V : Nat) (W : World) (hV : w.heap.size ≤ V) (hb : Below w.heap.size w W) (hE : EvAt W V fb pg 0 fuel) => main_of p V fb pg fuel lo fs w h3 h4 hpr hp hV hPg hW (by omega) W hb hE aa ca args hA hAb g i hi hgi (by omega) R r hr hro)
  have HRO := hid hro
  have HFU := hid hfu
  rw [← hna] at HMN
  have hz : (w.alloc (.cells #[.int .i64 0, .int .i64 0] 36)).heap[w.heap.size]? = some (.cells #[.int .i64 0, .int .i64 0] 36 (0, 0)) := heap_alloc_new w _
  have HZ := hid hz
  have HBA := hid hbA
  obtain ⟨m, hm⟩ : ∃ m, m = g.more.length := ⟨_, rfl⟩
  rw [← hm] at HAR HNE q ⊢
  clear hPA hPg hi hgi hne hz hbA hm hr hro hA hAb hW hp hna hfu
  go_enter Tryz.func11, Tryz.ntmps11
  go_wp2_with fail
  refine HAR.out.mono ?_
  rintro e w1 ⟨rfl, hb1⟩
  have hz1 : w1.heap[w.heap.size]? = _ := (hb1.block _ (by simp)).trans HZ.out
  have HB1 := hid (HBA.out.trans (hb1.mono HBA.out.size))
  obtain ⟨C, hC⟩ : ∃ C, C = w.heap.size := ⟨_, rfl⟩
  rw [← hC] at hz1 ⊢
  have HCC := hid hC
  have c0 : w1.cell? ⟨C, 0, none⟩ = some (.int .i64 0) := by simp [World.cell?, hz1]
  have c1 : w1.cell? ⟨C, 1, none⟩ = some (.int .i64 0) := by simp [World.cell?, hz1]
  have f1 : ∀ i, w1.frozen? ⟨C, i, none⟩ = false := fun i => frozen_of_row w1 C i _ _ hz1
  have HZ1 := hid hz1
  clear hb1 HAR hz1 hC HZ HBA
  have HVV : Hid (EvAt (w1.alloc (.cells #[.pointer (some ⟨fb, 0, none⟩), .pointer (some ⟨pg, 0, none⟩), .int .i64 0, .int .i64 (fuel : Int)] 96)) w1.heap.size fb pg 0 fuel) := heap_alloc_new w1 _
  have hbV : Below w1.heap.size w1 (w1.alloc (.cells #[.pointer (some ⟨fb, 0, none⟩), .pointer (some ⟨pg, 0, none⟩), .int .i64 0, .int .i64 (fuel : Int)] 96)) := (Below.refl _ _).alloc (Nat.le_refl _) _
  have HBV := hid (HB1.out.trans (hbV.mono HB1.out.size))
  have HZV : Hid ((w1.alloc (.cells #[.pointer (some ⟨fb, 0, none⟩), .pointer (some ⟨pg, 0, none⟩), .int .i64 0, .int .i64 (fuel : Int)] 96)).heap[C]? = _) := (hbV.block _ (Array.getElem?_eq_some_iff.1 HZ1.out).1).trans HZ1.out
  have HCL : Hid (C < w1.heap.size) := (Array.getElem?_eq_some_iff.1 HZ1.out).1
  have HSV : Hid (w1.heap.size ≤ (w1.alloc (.cells #[.pointer (some ⟨fb, 0, none⟩), .pointer (some ⟨pg, 0, none⟩), .int .i64 0, .int .i64 (fuel : Int)] 96)).heap.size) := hbV.size
  clear hbV
  go_wp2_with fail
  refine (HMN.out w1.heap.size _ HB1.out.size HBV.out HVV.out).mono ?_
  intro e w2 he
  obtain ⟨hf2, he⟩ := he
  clear c0 c1 f1
  cases r with
  | out => exact he.elim
  | stop er =>
    have he' : e = .returned (.tuple #[.agg #[.int .i64 0, .int .i64 0], .iface 72 (.int .i64 (er : Int))]) := he
    subst he'
    have hz2 : w2.heap[C]? = _ := (hf2.2 C (Nat.lt_of_lt_of_le HCL.out HSV.out) (by have := HCL.out; omega)).trans HZV.out
    have c0 : w2.cell? ⟨C, 0, none⟩ = some (.int .i64 0) := by simp [World.cell?, hz2]
    have c1 : w2.cell? ⟨C, 1, none⟩ = some (.int .i64 0) := by simp [World.cell?, hz2]
    have f1 : ∀ i, w2.frozen? ⟨C, i, none⟩ = false := fun i => frozen_of_row w2 C i _ _ hz2
    have HB2 : Hid (Below w.heap.size w w2) := HBV.out.trans (hf2.1.mono HB1.out.size)
    have HZ2 := hid hz2
    clear hf2 hz2 HZV HVV HMN
    go_wp2_with fail
    obtain ⟨X, hX⟩ : ∃ X, X = (w2.setCell ⟨C, 0, none⟩ (.int .i64 0)).setCell ⟨C, 1, none⟩ (.int .i64 0) := ⟨_, rfl⟩
    rw [← hX]
    have e1 : X.heap[C]? = some (.cells #[.int .i64 0, .int .i64 0] 36 (0, 0)) := by rw [hX]; exact heap_setCell_same _ C 1 _ _ _ (heap_setCell_same _ C 0 _ _ _ HZ2.out)
    have hBX : Below w.heap.size w X := by rw [hX]; exact (HB2.out.setCell (p := ⟨C, 0, none⟩) (Nat.le_of_eq HCC.out.symm) _).setCell (p := ⟨C, 1, none⟩) (Nat.le_of_eq HCC.out.symm) _
    have j0 : X.cell? ⟨C, 0, none⟩ = some (.int .i64 0) := by simp [World.cell?, e1]
    have j1 : X.cell? ⟨C, 1, none⟩ = some (.int .i64 0) := by simp [World.cell?, e1]
    have hE : ElR na m (fuel : Int) w (.stop er) (.returned (.tuple #[.agg #[.int .i64 0, .int .i64 0], .iface 72 (.int .i64 (er : Int))])) X := ⟨hBX, by rw [if_neg (by simp [HNE.out]), if_neg (by have := HFU.out; omega)]⟩
    clear hX e1 hBX c0 c1 f1 HZ2
    simp [bodyPost, results, Tryz.results11, go_sem, j0, j1]
    exact hE
  | val x k3 =>
    have he' : e = .returned (.tuple #[.agg #[.int .i64 x, .int .i64 (k3 : Int)], .nilIface]) := he
    subst he'
    have hz2 : w2.heap[C]? = _ := (hf2.2 C (Nat.lt_of_lt_of_le HCL.out HSV.out) (by have := HCL.out; omega)).trans HZV.out
    have c0 : w2.cell? ⟨C, 0, none⟩ = some (.int .i64 0) := by simp [World.cell?, hz2]
    have c1 : w2.cell? ⟨C, 1, none⟩ = some (.int .i64 0) := by simp [World.cell?, hz2]
    have f1 : ∀ i, w2.frozen? ⟨C, i, none⟩ = false := fun i => frozen_of_row w2 C i _ _ hz2
    have HB2 : Hid (Below w.heap.size w w2) := HBV.out.trans (hf2.1.mono HB1.out.size)
    have HZ2 := hid hz2
    clear hf2 hz2 HZV HVV HMN
    go_wp2_with fail
    obtain ⟨X, hX⟩ : ∃ X, X = (w2.setCell ⟨C, 0, none⟩ (.int .i64 x)).setCell ⟨C, 1, none⟩ (.int .i64 (k3 : Int)) := ⟨_, rfl⟩
    rw [← hX]
    have e1 : X.heap[C]? = some (.cells #[.int .i64 x, .int .i64 (k3 : Int)] 36 (0, 0)) := by rw [hX]; exact heap_setCell_same _ C 1 _ _ _ (heap_setCell_same _ C 0 _ _ _ HZ2.out)
    have hBX : Below w.heap.size w X := by rw [hX]; exact (HB2.out.setCell (p := ⟨C, 0, none⟩) (Nat.le_of_eq HCC.out.symm) _).setCell (p := ⟨C, 1, none⟩) (Nat.le_of_eq HCC.out.symm) _
    have j0 : X.cell? ⟨C, 0, none⟩ = some (.int .i64 x) := by simp [World.cell?, e1]
    have j1 : X.cell? ⟨C, 1, none⟩ = some (.int .i64 (k3 : Int)) := by simp [World.cell?, e1]
    have hE : ElR na m (fuel : Int) w (.val x k3) (.returned (.tuple #[.agg #[.int .i64 x, .int .i64 (k3 : Int)], .nilIface])) X := ⟨hBX, by rw [if_neg (by simp [HNE.out]), if_neg (by have := HFU.out; omega)]⟩
    clear hX e1 hBX c0 c1 f1 HZ2
    simp [bodyPost, results, Tryz.results11, go_sem, j0, j1]
    exact hE

end Go.Proofs.YtlgcmeachjjmgajGreatDoor

namespace Go.Proofs.YtlgcmeachjjmgajGreatDoor
open Go.RowKit

/-- a text's functions, or its first fault -/
def prs (T : ByteArray) : Res (List FnT) := pRes (by' T) (4 * T.size + 1)
theorem prs_out (T : ByteArray) : prs T ≠ .out := by
  have h := pProg_fw (by' T) (4 * T.size + 1) [] 0 (Nat.zero_le _) (by rw [by_len]; omega)
  unfold prs pRes
  cases hq : pProg (by' T) (4 * T.size + 1) [] 0 with
  | out => rw [hq] at h; exact h.elim
  | bad e a => exact fun h => (nomatch h)
  | ok fs j =>
    cases hc : ckn fs (by' T).length with
    | none => simp [hc]
    | some y => simp [hc]
theorem parse_is (T : ByteArray) (w : World) (hTm : T.size ≤ 281474976710656) (hEv : EvW w) : Calls Tryz.prog 8 #[.string T] w (PaR w T.size (prs T)) :=
  parse_any T (4 * T.size + 1) w hTm hEv (prs T) rfl (prs_out T)
theorem prs_ok {T : ByteArray} {fs : List FnT} {j : Nat} (h : prs T = .ok fs j) : FsOk fs ∧ ∃ i g, fs[i]? = some g ∧ g.name = mainW ∧ nmM fs fs.length mainW = some ((i : Nat) : Int) := by
  unfold prs pRes at h
  cases hq : pProg (by' T) (4 * T.size + 1) [] 0 with
  | out => rw [hq] at h; cases h
  | bad e a => rw [hq] at h; cases h
  | ok gs k =>
    rw [hq] at h
    cases hc : ckn gs (by' T).length with
    | some y => simp [hc] at h
    | none =>
      simp [hc] at h
      obtain ⟨rfl, rfl⟩ := h
      obtain ⟨h1, h2⟩ := ckn_none hc
      refine ⟨h1, ?_⟩
      rw [List.any_eq_true] at h2
      obtain ⟨g, hg, hn⟩ := h2
      obtain ⟨i, hi⟩ := List.getElem?_of_mem hg
      have hn' : g.name = mainW := by simpa using hn
      exact ⟨i, g, hi, hn', by rw [← hn']; exact h1.num hi⟩
theorem mnS_names (p : Nat) (more : List (List UInt8 × Nat)) (args : List Int) : ∀ j, j ≤ more.length → (mnS p more args j).map (·.1) = ((more.take j).map (·.1)).reverse
  | 0, _ => by simp [mnS]
  | j + 1, h => by
    have hj : j < more.length := by omega
    rw [mnS, List.getElem?_eq_getElem hj, List.take_add_one, List.getElem?_eq_getElem hj]
    show more[j].1 :: (mnS p more args j).map (·.1) = _
    rw [List.map_append, List.reverse_append, mnS_names p more args j (by omega)]
    rfl
/-- what a program comes to -/
def evE (p : Nat) (fs : List FnT) (g : FnT) (args : List Int) (fuel : Int) (R : Nat) : ER Int := evl p fs fuel.toNat R g.body (mnS p g.more args g.more.length) 0
theorem evE_out (p : Nat) (fs : List FnT) (i : Nat) (g : FnT) (args : List Int) (fuel : Int) (R : Nat) (hR : fuel.toNat + 1 ≤ R) (h3 : 3 ≤ p) (hF : FsOk fs) (hW : ∀ g, g ∈ fs → FW g) (hgi : fs[i]? = some g) : evE p fs g args fuel R ≠ .out := by
  refine evl_out p fs fuel.toNat h3 hF hW _ _ _ 0 (hW g (List.mem_of_getElem? hgi)).2.2.2 (mnS_bd p _ _ h3 _) ?_ (Nat.zero_le _) (by omega)
  rw [mnS_names p g.more args _ (Nat.le_refl _), List.take_length]
  exact ckw_none (hF i g hgi).2
theorem seval_any (p fb pg lo i : Nat) (h3 : 3 ≤ p) (h4 : p ≤ 2147483647) (hpr : Num.Prime p) (fs : List FnT) (g : FnT) (w : World) (hPg : PgAt lo w pg fs) (hp : w.cell? ⟨fb, 0, none⟩ = some (.int .i64 p)) (hF : FsOk fs) (hW : ∀ g, g ∈ fs → FW g) (hi : nmM fs fs.length mainW = some (i : Int)) (hgi : fs[i]? = some g) (aa : Option Addr) (ca na : Nat) (fuel : Int) (args : List Int) (hA : RowB w.heap.size w aa args) (hAb : Fits args) (hna : na = args.length) (R : Nat) (hR : fuel.toNat + 1 ≤ R) :
    Calls Tryz.prog 11 #[.pointer (some ⟨pg, 0, none⟩), .pointer (some ⟨fb, 0, none⟩), .slice aa na ca, .int .i64 fuel] w (ElR na g.more.length fuel w (evE p fs g args fuel R)) := by
  by_cases hne : na = g.more.length
  · by_cases hfu : fuel < 0 ∨ 16384 < fuel
    · exact eval_range fb pg lo i fs g w hPg hi hgi aa ca na fuel _ hne hfu
    · obtain ⟨F, rfl⟩ := Int.eq_ofNat_of_zero_le (show 0 ≤ fuel by omega)
      refine eval_good p fb pg lo i R h3 h4 hpr fs g w hPg hp hW hi hgi aa ca na F args hA (fun j => ?_) hna hne (by omega) _ ?_ (evE_out p fs i g args _ R hR h3 hF hW hgi)
      · by_cases hj : j < args.length
        · exact hAb j hj
        · have : zat args j = 0 := by unfold zat; rw [List.getElem?_eq_none (by omega)]; rfl
          rw [this]; omega
      · unfold evE
        rw [Int.toNat_natCast]
  · exact eval_size fb pg lo i fs g w hPg hi hgi aa ca na fuel _ hne

end Go.Proofs.YtlgcmeachjjmgajGreatDoor
