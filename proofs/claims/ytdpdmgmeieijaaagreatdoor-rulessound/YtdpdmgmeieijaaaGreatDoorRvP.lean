/- attestref8.Table, where there may be a table. -/
import Derived.Test.YtdpdmgmeieijaaaGreatDoorSndBA
namespace Go.Proofs.YtdpdmgmeieijaaaGreatDoor
open Go.RowKit Go.Maps

/-- a row on its way, beside its step and the code -/
structure RwS (wr : World) (C k : Nat) (s : List Int) (size : Int) (aL : Option Addr) (nL cL : Nat) (l : List Int) (W : World) : Prop where
  row : BRow (wr.heap.size + 1) W l
  stp : W.heap[wr.heap.size]? = some (.cells #[.int .i64 (k : Int), .int .i64 (zat s 1), .int .i64 (zat s 2), .int .i64 (zat s 3), .int .i64 (zat s 4), .int .i64 (zat s 5), .int .i64 (zat s 6), .int .i64 (zat s 7), .int .i64 (zat s 8), .int .i64 (zat s 9)] 66 (0, 0))
  cod : W.heap[C]? = some (.cells #[.int .i64 size, .slice aL nL cL] 24 (0, 0))
  bel : Below wr.heap.size wr W
theorem RwS.set {wr : World} {C k : Nat} {s : List Int} {size : Int} {aL : Option Addr} {nL cL : Nat} {l : List Int} {W : World} (h : RwS wr C k s size aL nL cL l W) (hC : C < wr.heap.size) {j : Nat} (x : Int) (hj : j < l.length) : RwS wr C k s size aL nL cL (l.set j x) (W.setCell ⟨wr.heap.size + 1, j, none⟩ (.int .i64 x)) :=
  ⟨h.row.set x hj, (Below.heap_setCell _ _ _ _ (show wr.heap.size ≠ wr.heap.size + 1 by omega)).trans h.stp, (Below.heap_setCell _ _ _ _ (show C ≠ wr.heap.size + 1 by omega)).trans h.cod, h.bel.setCell (p := ⟨wr.heap.size + 1, j, none⟩) (show wr.heap.size ≤ wr.heap.size + 1 by omega) _⟩
theorem RwS.step {wr : World} {C k : Nat} {s : List Int} {size : Int} {aL : Option Addr} {nL cL : Nat} {l : List Int} {W W' : World} (h : RwS wr C k s size aL nL cL l W) (e : Below W.heap.size W W') : RwS wr C k s size aL nL cL l W' :=
  ⟨h.row.block (e.block _ h.row.row.lt), (e.block _ (Array.getElem?_eq_some_iff.1 h.stp).1).trans h.stp, (e.block _ (Array.getElem?_eq_some_iff.1 h.cod).1).trans h.cod, h.bel.trans (e.mono h.bel.size)⟩
theorem RwS.at {wr : World} {C k : Nat} {s : List Int} {size : Int} {aL : Option Addr} {nL cL : Nat} {l : List Int} {W : World} (h : RwS wr C k s size aL nL cL l W) {j : Nat} (h1 : 1 ≤ j) (hj : j < 10) : W.cell? ⟨wr.heap.size, j, none⟩ = some (.int .i64 (zat s j)) := by
  have : j = 1 ∨ j = 2 ∨ j = 3 ∨ j = 4 ∨ j = 5 ∨ j = 6 ∨ j = 7 ∨ j = 8 ∨ j = 9 := by omega
  rcases this with rfl | rfl | rfl | rfl | rfl | rfl | rfl | rfl | rfl <;> simp [World.cell?, h.stp]

end Go.Proofs.YtdpdmgmeieijaaaGreatDoor
