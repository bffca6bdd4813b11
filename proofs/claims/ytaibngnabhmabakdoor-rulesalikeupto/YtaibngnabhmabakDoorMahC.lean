/- Package machine: cells. -/
import Derived.Test.YtaibngnabhmabakDoorBaAE
namespace Go.Proofs.YtaibngnabhmabakDoor
open Go.RowKit Go.Maps

/-- the cells of an instruction -/
def cel3 (p : Nat) (op a b c fp ap : Int) (i : Nat) : Int :=
  if op = 1 ∨ op = 2 ∨ op = 3 ∨ op = 4 ∨ op = 6 then (if i = 0 then (fp + a) % (p : Int) else if i = 1 then (fp + b) % (p : Int) else (fp + c) % (p : Int))
  else if op = 7 then (if i = 0 then (fp + a) % (p : Int) else if i = 1 then (fp + b) % (p : Int) else 0)
  else if op = 5 ∨ op = 9 ∨ op = 12 ∨ op = 0 then (if i = 0 then (fp + a) % (p : Int) else 0)
  else if op = 10 then (if i = 0 then ap % (p : Int) else if i = 1 then (ap + 1) % (p : Int) else 0)
  else if op = 11 then (if i = 0 then (fp - 2) % (p : Int) else if i = 1 then (fp - 1) % (p : Int) else (fp + a) % (p : Int))
  else if op = 13 then (if i = 0 then (fp + a) % (p : Int) else if i = 1 then ((ap + 2) % (p : Int) + b) % (p : Int) else 0)
  else 0
def I64 (x : Int) : Prop := -9223372036854775808 ≤ x ∧ x ≤ 9223372036854775807
theorem row3_arr {W : World} {g : Nat} {t : TypeId} {f : Nat → Value} (h : W.rowIs g t 3 f) : W.heap[g]? = some (.cells #[f 0, f 1, f 2] t (0, 0)) := by
  obtain ⟨c, hb, hs, hc⟩ := h
  rw [hb]
  congr 2
  apply Array.ext
  · simpa using hs
  · intro i h1 h2
    have h4 : i < 3 := by simpa using h2
    have := hc i h4
    rw [Array.getElem?_eq_getElem h1] at this
    injection this with this
    rw [this]
    have : i = 0 ∨ i = 1 ∨ i = 2 := by omega
    rcases this with rfl | rfl | rfl <;> rfl
theorem row3_of {W : World} {g : Nat} {t : TypeId} {a b c : Value} (h : W.heap[g]? = some (.cells #[a, b, c] t (0, 0))) : W.rowIs g t 3 (fun i => #[a, b, c].getD i .nilFunc) :=
  ⟨_, h, rfl, fun i hi => by
    have : i = 0 ∨ i = 1 ∨ i = 2 := by omega
    rcases this with rfl | rfl | rfl <;> rfl⟩
theorem put3_heap {W : World} {g : Nat} {t : TypeId} {z0 z1 z2 : Value} (h : W.heap[g]? = some (.cells #[z0, z1, z2] t (0, 0))) (a b c : Value) : (((W.setCell ⟨g, 0, none⟩ a).setCell ⟨g, 1, none⟩ b).setCell ⟨g, 2, none⟩ c).heap[g]? = some (.cells #[a, b, c] t (0, 0)) := by
  have := row3_arr ((((row3_of h).set 0 a).set 1 b).set 2 c)
  simpa using this
theorem put3_below {N : Nat} {w W : World} {g : Nat} (e : Below N w W) (hg : N ≤ g) (a b c : Value) : Below N w (((W.setCell ⟨g, 0, none⟩ a).setCell ⟨g, 1, none⟩ b).setCell ⟨g, 2, none⟩ c) :=
  ⟨e.os, e.tape, e.output, by simpa [World.setCell] using e.size, fun k hk => by
    rw [Below.heap_setCell _ _ _ _ (by show k ≠ g; omega), Below.heap_setCell _ _ _ _ (by show k ≠ g; omega), Below.heap_setCell _ _ _ _ (by show k ≠ g; omega)]
    exact e.block k hk⟩
/-- what cells gives -/
def CeR (p : Nat) (op ia ib ic fp ap : Int) (w : World) (e : Ending) (w' : World) : Prop := e = .returned (.agg #[.int .i64 (cel3 p op ia ib ic fp ap 0), .int .i64 (cel3 p op ia ib ic fp ap 1), .int .i64 (cel3 p op ia ib ic fp ap 2)]) ∧ Below w.heap.size w w'


end Go.Proofs.YtaibngnabhmabakDoor
