/- attestref6: shown, look, tell, must. -/
import Derived.Test.YtoodjpkflcbfdaiDoorMacA
namespace Go.Proofs.YtoodjpkflcbfdaiDoor
open Go.RowKit

def updM (f : Nat → Int) (i : Nat) (x : Int) : Nat → Int := fun j => if j = i then x else f j
def RM.shown (s : RM) (x y : Int) : RM := { s with at' := updM s.at' s.slot x, is' := updM s.is' s.slot y, slot := s.slot + 1 }
theorem rowF {w : World} {g n : Nat} {t : TypeId} {f : Nat → Value} (h : w.rowIs g t n f) (i : Nat) : w.frozen? ⟨g, i, none⟩ = false := h.frozen i
theorem gbM {w w' : World} {M i : Nat} {v : Value} (h : w.grownBy w' (some M)) : w.grownBy (w'.setCell ⟨M, i, none⟩ v) (some M) :=
  ⟨h.os, h.tape, h.output, by have := h.size; simpa [World.setCell] using this, fun k hk hne => (Below.heap_setCell _ _ _ _ (by show k ≠ M; intro e; exact hne (by rw [e]))).trans (h.block k hk hne)⟩

theorem gb_same (w : World) (M : Nat) : w.grownBy w (some M) := ⟨rfl, rfl, rfl, Nat.le_refl _, fun _ _ _ => rfl⟩
theorem gb_drewB {w w' : World} {g : Option Nat} (h : w.grownBy w' g) : w.grownBy w'.drew g := ⟨h.os, h.tape, h.output, h.size, h.block⟩
theorem fourteen {i : Nat} (h : i < 14) : i = 0 ∨ i = 1 ∨ i = 2 ∨ i = 3 ∨ i = 4 ∨ i = 5 ∨ i = 6 ∨ i = 7 ∨ i = 8 ∨ i = 9 ∨ i = 10 ∨ i = 11 ∨ i = 12 ∨ i = 13 := by omega
theorem rmv_at (k : Nat) (hk : k < 3) (p : Nat) (v : Value) (s : RM) (x : Int) : ∀ i, i < 14 → (if i = 6 + k then Value.int .i64 x else rmv p v s i) = rmv p v { s with at' := updM s.at' k x } i := fun i hi => by
  have h3 : k = 0 ∨ k = 1 ∨ k = 2 := by omega
  rcases h3 with rfl | rfl | rfl <;> rcases fourteen hi with rfl | rfl | rfl | rfl | rfl | rfl | rfl | rfl | rfl | rfl | rfl | rfl | rfl | rfl <;> simp [rmv, updM]
theorem rmv_is (k : Nat) (hk : k < 3) (p : Nat) (v : Value) (s : RM) (x : Int) : ∀ i, i < 14 → (if i = 9 + k then Value.int .i64 x else rmv p v s i) = rmv p v { s with is' := updM s.is' k x } i := fun i hi => by
  have h3 : k = 0 ∨ k = 1 ∨ k = 2 := by omega
  rcases h3 with rfl | rfl | rfl <;> rcases fourteen hi with rfl | rfl | rfl | rfl | rfl | rfl | rfl | rfl | rfl | rfl | rfl | rfl | rfl | rfl <;> simp [rmv, updM]
theorem rmv_slot (p : Nat) (v : Value) (s : RM) (k : Nat) : ∀ i, i < 14 → (if i = 12 then Value.int .i64 (k : Int) else rmv p v s i) = rmv p v { s with slot := k } i := fun i hi => by
  rcases fourteen hi with rfl | rfl | rfl | rfl | rfl | rfl | rfl | rfl | rfl | rfl | rfl | rfl | rfl | rfl <;> simp [rmv]
theorem rmv_err (p : Nat) (v : Value) (s : RM) (e : Int) : ∀ i, i < 14 → (if i = 13 then Value.int .i64 e else rmv p v s i) = rmv p v { s with err := e } i := fun i hi => by
  rcases fourteen hi with rfl | rfl | rfl | rfl | rfl | rfl | rfl | rfl | rfl | rfl | rfl | rfl | rfl | rfl <;> simp [rmv]
theorem rmv_cs (p : Nat) (v v' : Value) (s : RM) (c : List (Int × Int)) : ∀ i, i < 14 → (if i = 1 then v' else rmv p v s i) = rmv p v' { s with cs := c } i := fun i hi => by
  rcases fourteen hi with rfl | rfl | rfl | rfl | rfl | rfl | rfl | rfl | rfl | rfl | rfl | rfl | rfl | rfl <;> simp [rmv]

set_option maxRecDepth 100000 in
set_option maxHeartbeats 1000000 in
theorem rshown_any (M p : Nat) (v : Value) (s : RM) (x y : Int) (w : World) (h : w.rowIs M 75 14 (rmv p v s)) (hs : s.slot < 3) :
    Calls Tryd.prog 69 #[.pointer (some ⟨M, 0, none⟩), .int .i64 x, .int .i64 y] w fun e w' => e = .returned (.tuple #[]) ∧ w'.rowIs M 75 14 (rmv p v (s.shown x y)) ∧ w.grownBy w' (some M) ∧ w'.heap.size = w.heap.size := by
  have hmx : Tryd.prog.follows .mixedOrders = true := by kernel_rfl
  have H := hid h
  have c12 : w.cell? ⟨M, 12, none⟩ = some (.int .i64 (s.slot : Int)) := h.cell (i := 12) (by decide)
  have c6 : w.cell? ⟨M, 6, none⟩ = some (.int .i64 (s.at' 0)) := h.cell (i := 6) (by decide)
  have c7 : w.cell? ⟨M, 7, none⟩ = some (.int .i64 (s.at' 1)) := h.cell (i := 7) (by decide)
  have c8 : w.cell? ⟨M, 8, none⟩ = some (.int .i64 (s.at' 2)) := h.cell (i := 8) (by decide)
  have c9 : w.cell? ⟨M, 9, none⟩ = some (.int .i64 (s.is' 0)) := h.cell (i := 9) (by decide)
  have c10 : w.cell? ⟨M, 10, none⟩ = some (.int .i64 (s.is' 1)) := h.cell (i := 10) (by decide)
  have c11 : w.cell? ⟨M, 11, none⟩ = some (.int .i64 (s.is' 2)) := h.cell (i := 11) (by decide)
  have f := h.frozen
  have h3 : s.slot = 0 ∨ s.slot = 1 ∨ s.slot = 2 := by omega
  obtain ⟨k, hk⟩ : ∃ k, k = s.slot := ⟨_, rfl⟩
  rw [← hk] at c12 h3
  have HK := hid hk
  clear h hs hk
  rcases h3 with rfl | rfl | rfl
  · have R1 : (w.setCell ⟨M, 6, none⟩ (.int .i64 x)).drew.rowIs M 75 14 (rmv p v { s with at' := updM s.at' 0 x }) := ((H.out.set 6 (.int .i64 x)).congr (rmv_at 0 (by decide) p v s x)).drew
    have HG1 : Hid (w.grownBy (w.setCell ⟨M, 6, none⟩ (.int .i64 x)).drew (some M)) := gb_drewB (gbM (gb_same w M))
    have hz1 : Hid ((w.setCell ⟨M, 6, none⟩ (.int .i64 x)).drew.heap.size = w.heap.size) := by unfold Hid; simp [World.setCell, World.drew]
    have HR1 := hid R1
    have d12 := R1.cell (i := 12) (by decide)
    have d9 := R1.cell (i := 9) (by decide)
    have g := R1.frozen
    change _ = some (Value.int .i64 (s.slot : Int)) at d12
    change _ = some (Value.int .i64 (s.is' 0)) at d9
    rw [← HK.out] at d12
    go_enter Tryd.func69, Tryd.ntmps69
    go_wp2_with fail
    go_still_tail 10, hmx
    go_wp2_with fail
    clear R1 c6 c7 c8 c9 c10 c11 c12 f
    generalize (w.setCell ⟨M, 6, none⟩ (.int .i64 x)).drew = W1 at *
    have R2 : (W1.setCell ⟨M, 9, none⟩ (.int .i64 y)).drew.rowIs M 75 14 (rmv p v { s with at' := updM s.at' 0 x, is' := updM s.is' 0 y }) := ((HR1.out.set 9 (.int .i64 y)).congr (rmv_is 0 (by decide) p v { s with at' := updM s.at' 0 x } y)).drew
    have HG2 : Hid (w.grownBy (W1.setCell ⟨M, 9, none⟩ (.int .i64 y)).drew (some M)) := gb_drewB (gbM HG1.out)
    have hz2 : Hid ((W1.setCell ⟨M, 9, none⟩ (.int .i64 y)).drew.heap.size = w.heap.size) := by unfold Hid; rw [← hz1.out]; simp [World.setCell, World.drew]
    have HR2 := hid R2
    have e12 := R2.cell (i := 12) (by decide)
    have g2 := R2.frozen
    change _ = some (Value.int .i64 (s.slot : Int)) at e12
    rw [← HK.out] at e12
    clear R2
    go_still_tail 10, hmx
    go_wp2_with fail
    go_end0
    have R3 := (HR2.out.set 12 (.int .i64 ((1 : Nat) : Int))).congr (rmv_slot p v { s with at' := updM s.at' 0 x, is' := updM s.is' 0 y } 1)
    refine ⟨rfl, ?_, gbM HG2.out, ?_⟩
    · have hE : s.shown x y = { s with at' := updM s.at' 0 x, is' := updM s.is' 0 y, slot := 1 } := by unfold RM.shown; rw [← HK.out]
      rw [hE]
      exact R3
    · rw [← hz2.out]; simp [World.setCell]
  · have R1 : (w.setCell ⟨M, 7, none⟩ (.int .i64 x)).drew.rowIs M 75 14 (rmv p v { s with at' := updM s.at' 1 x }) := ((H.out.set 7 (.int .i64 x)).congr (rmv_at 1 (by decide) p v s x)).drew
    have HG1 : Hid (w.grownBy (w.setCell ⟨M, 7, none⟩ (.int .i64 x)).drew (some M)) := gb_drewB (gbM (gb_same w M))
    have hz1 : Hid ((w.setCell ⟨M, 7, none⟩ (.int .i64 x)).drew.heap.size = w.heap.size) := by unfold Hid; simp [World.setCell, World.drew]
    have HR1 := hid R1
    have d12 := R1.cell (i := 12) (by decide)
    have d10 := R1.cell (i := 10) (by decide)
    have g := R1.frozen
    change _ = some (Value.int .i64 (s.slot : Int)) at d12
    change _ = some (Value.int .i64 (s.is' 1)) at d10
    rw [← HK.out] at d12
    go_enter Tryd.func69, Tryd.ntmps69
    go_wp2_with fail
    go_still_tail 10, hmx
    go_wp2_with fail
    clear R1 c6 c7 c8 c9 c10 c11 c12 f
    generalize (w.setCell ⟨M, 7, none⟩ (.int .i64 x)).drew = W1 at *
    have R2 : (W1.setCell ⟨M, 10, none⟩ (.int .i64 y)).drew.rowIs M 75 14 (rmv p v { s with at' := updM s.at' 1 x, is' := updM s.is' 1 y }) := ((HR1.out.set 10 (.int .i64 y)).congr (rmv_is 1 (by decide) p v { s with at' := updM s.at' 1 x } y)).drew
    have HG2 : Hid (w.grownBy (W1.setCell ⟨M, 10, none⟩ (.int .i64 y)).drew (some M)) := gb_drewB (gbM HG1.out)
    have hz2 : Hid ((W1.setCell ⟨M, 10, none⟩ (.int .i64 y)).drew.heap.size = w.heap.size) := by unfold Hid; rw [← hz1.out]; simp [World.setCell, World.drew]
    have HR2 := hid R2
    have e12 := R2.cell (i := 12) (by decide)
    have g2 := R2.frozen
    change _ = some (Value.int .i64 (s.slot : Int)) at e12
    rw [← HK.out] at e12
    clear R2
    go_still_tail 10, hmx
    go_wp2_with fail
    go_end0
    have R3 := (HR2.out.set 12 (.int .i64 ((2 : Nat) : Int))).congr (rmv_slot p v { s with at' := updM s.at' 1 x, is' := updM s.is' 1 y } 2)
    refine ⟨rfl, ?_, gbM HG2.out, ?_⟩
    · have hE : s.shown x y = { s with at' := updM s.at' 1 x, is' := updM s.is' 1 y, slot := 2 } := by unfold RM.shown; rw [← HK.out]
      rw [hE]
      exact R3
    · rw [← hz2.out]; simp [World.setCell]
  · have R1 : (w.setCell ⟨M, 8, none⟩ (.int .i64 x)).drew.rowIs M 75 14 (rmv p v { s with at' := updM s.at' 2 x }) := ((H.out.set 8 (.int .i64 x)).congr (rmv_at 2 (by decide) p v s x)).drew
    have HG1 : Hid (w.grownBy (w.setCell ⟨M, 8, none⟩ (.int .i64 x)).drew (some M)) := gb_drewB (gbM (gb_same w M))
    have hz1 : Hid ((w.setCell ⟨M, 8, none⟩ (.int .i64 x)).drew.heap.size = w.heap.size) := by unfold Hid; simp [World.setCell, World.drew]
    have HR1 := hid R1
    have d12 := R1.cell (i := 12) (by decide)
    have d11 := R1.cell (i := 11) (by decide)
    have g := R1.frozen
    change _ = some (Value.int .i64 (s.slot : Int)) at d12
    change _ = some (Value.int .i64 (s.is' 2)) at d11
    rw [← HK.out] at d12
    go_enter Tryd.func69, Tryd.ntmps69
    go_wp2_with fail
    go_still_tail 10, hmx
    go_wp2_with fail
    clear R1 c6 c7 c8 c9 c10 c11 c12 f
    generalize (w.setCell ⟨M, 8, none⟩ (.int .i64 x)).drew = W1 at *
    have R2 : (W1.setCell ⟨M, 11, none⟩ (.int .i64 y)).drew.rowIs M 75 14 (rmv p v { s with at' := updM s.at' 2 x, is' := updM s.is' 2 y }) := ((HR1.out.set 11 (.int .i64 y)).congr (rmv_is 2 (by decide) p v { s with at' := updM s.at' 2 x } y)).drew
    have HG2 : Hid (w.grownBy (W1.setCell ⟨M, 11, none⟩ (.int .i64 y)).drew (some M)) := gb_drewB (gbM HG1.out)
    have hz2 : Hid ((W1.setCell ⟨M, 11, none⟩ (.int .i64 y)).drew.heap.size = w.heap.size) := by unfold Hid; rw [← hz1.out]; simp [World.setCell, World.drew]
    have HR2 := hid R2
    have e12 := R2.cell (i := 12) (by decide)
    have g2 := R2.frozen
    change _ = some (Value.int .i64 (s.slot : Int)) at e12
    rw [← HK.out] at e12
    clear R2
    go_still_tail 10, hmx
    go_wp2_with fail
    go_end0
    have R3 := (HR2.out.set 12 (.int .i64 ((3 : Nat) : Int))).congr (rmv_slot p v { s with at' := updM s.at' 2 x, is' := updM s.is' 2 y } 3)
    refine ⟨rfl, ?_, gbM HG2.out, ?_⟩
    · have hE : s.shown x y = { s with at' := updM s.at' 2 x, is' := updM s.is' 2 y, slot := 3 } := by unfold RM.shown; rw [← HK.out]
      rw [hE]
      exact R3
    · rw [← hz2.out]; simp [World.setCell]

end Go.Proofs.YtoodjpkflcbfdaiDoor
