/- attestref6: shown, look, tell, must. -/
import Derived.Test.YtgcjpddpolaofaiMacA
namespace Go.Proofs.Ytgcjpddpolaofai
open Go.RowKit

def updM (f : Nat → Int) (i : Nat) (x : Int) : Nat → Int := fun j => if j = i then x else f j
def RM.shown (s : RM) (x y : Int) : RM := { s with at' := updM s.at' s.slot x, is' := updM s.is' s.slot y, slot := s.slot + 1 }
theorem rowF {w : World} {g n : Nat} {t : TypeId} {f : Nat → Value} (h : w.rowIs g t n f) (i : Nat) : w.frozen? ⟨g, i, none⟩ = false := h.frozen i
theorem gbM {w w' : World} {M i : Nat} {v : Value} (h : w.grownBy w' (some M)) : w.grownBy (w'.setCell ⟨M, i, none⟩ v) (some M) :=
  ⟨h.os, h.tape, h.output, by have := h.size; simpa [World.setCell] using this, fun k hk hne => (Below.heap_setCell _ _ _ _ (by show k ≠ M; intro e; exact hne (by rw [e]))).trans (h.block k hk hne)⟩

theorem gb_same (w : World) (M : Nat) : w.grownBy w (some M) := ⟨rfl, rfl, rfl, Nat.le_refl _, fun _ _ _ => rfl⟩
theorem gb_drewB {w w' : World} {g : Option Nat} (h : w.grownBy w' g) : w.grownBy w'.drew g := ⟨h.os, h.tape, h.output, h.size, h.block⟩
theorem fourteen {i : Nat} (h : i < 14) : i = 0 ∨ i = 1 ∨ i = 2 ∨ i = 3 ∨ i = 4 ∨ i = 5 ∨ i = 6 ∨ i = 7 ∨ i = 8 ∨ i = 9 ∨ i = 10 ∨ i = 11 ∨ i = 12 ∨ i = 13 := by omega
theorem rmv_at (k : Nat) (hk : k < 3) (p : Nat) (v : Value) (s : RM) (x : Int) : ∀ i, i < 14 → (if i = 6 + k then Value.int .i64 x else rmv p v s i) = rmv p v { s with at' := updM s.at' k x } i := fun i hi => by
  have h3 : k = 0 ∨ k = 1 ∨ k = 2 := by omega
  rcases h3 with rfl | rfl | rfl <;> rcases fourteen hi with rfl | rfl | rfl | rfl | rfl | rfl | rfl | rfl | rfl | rfl | rfl | rfl | rfl | rfl <;> simp [rmv, updM]
theorem rmv_is (k : Nat) (hk : k < 3) (p : Nat) (v : Value) (s : RM) (x : Int) : ∀ i, i < 14 → (if i = 9 + k then Value.int .i64 x else rmv p v s i) = rmv p v { s with is' := updM s.is' k x } i := fun i hi => by
  have h3 : k = 0 ∨ k = 1 ∨ k = 2 := by omega
  rcases h3 with rfl | rfl | rfl <;> rcases fourteen hi with rfl | rfl | rfl | rfl | rfl | rfl | rfl | rfl | rfl | rfl | rfl | rfl | rfl | rfl <;> simp [rmv, updM]
theorem rmv_slot (p : Nat) (v : Value) (s : RM) (k : Nat) : ∀ i, i < 14 → (if i = 12 then Value.int .i64 (k : Int) else rmv p v s i) = rmv p v { s with slot := k } i := fun i hi => by
  rcases fourteen hi with rfl | rfl | rfl | rfl | rfl | rfl | rfl | rfl | rfl | rfl | rfl | rfl | rfl | rfl <;> simp [rmv]
theorem rmv_err (p : Nat) (v : Value) (s : RM) (e : Int) : ∀ i, i < 14 → (if i = 13 then Value.int .i64 e else rmv p v s i) = rmv p v { s with err := e } i := fun i hi => by
  rcases fourteen hi with rfl | rfl | rfl | rfl | rfl | rfl | rfl | rfl | rfl | rfl | rfl | rfl | rfl | rfl <;> simp [rmv]
theorem rmv_cs (p : Nat) (v v' : Value) (s : RM) (c : List (Int × Int)) : ∀ i, i < 14 → (if i = 1 then v' else rmv p v s i) = rmv p v' { s with cs := c } i := fun i hi => by
  rcases fourteen hi with rfl | rfl | rfl | rfl | rfl | rfl | rfl | rfl | rfl | rfl | rfl | rfl | rfl | rfl <;> simp [rmv]

end Go.Proofs.Ytgcjpddpolaofai
