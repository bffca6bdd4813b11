/- attestsame.Foldeds. -/
import Derived.Test.YtcajofdmadpmoaaFolI
namespace Go.Proofs.Ytcajofdmadpmoaa
open Go.RowKit

theorem thr_row {W : World} {g : Nat} {a b c : Value} {t : TypeId} (h : W.heap[g]? = some (.cells #[a, b, c] t (0, 0))) : W.rowIs g t 3 (tri a b c) :=
  ⟨#[a, b, c], h, rfl, fun i hi => by
    have : i = 0 ∨ i = 1 ∨ i = 2 := by omega
    rcases this with rfl | rfl | rfl <;> rfl⟩

/-- what stands while a Folded is copied -/
structure FdI (B : Nat) (x1 x2 x3 v1 v2 v3 : Value) (w W : World) : Prop where
  bel : Below w.heap.size w W
  obx : W.heap[B]? = some (.cells #[x1, x2, x3] 28 (0, 0))
  res : W.heap[B + 1]? = some (.cells #[.slice none 0 0, .slice none 0 0, .slice none 0 0] 28 (0, 0))
  out : W.heap[B + 2]? = some (.cells #[v1, v2, v3] 28 (0, 0))
theorem FdI.step {B : Nat} {x1 x2 x3 v1 v2 v3 : Value} {w W W' : World} (h : FdI B x1 x2 x3 v1 v2 v3 w W) (e : Below W.heap.size W W') : FdI B x1 x2 x3 v1 v2 v3 w W' :=
  ⟨h.bel.trans (e.mono h.bel.size), (e.block _ (Array.getElem?_eq_some_iff.1 h.obx).1).trans h.obx, (e.block _ (Array.getElem?_eq_some_iff.1 h.res).1).trans h.res, (e.block _ (Array.getElem?_eq_some_iff.1 h.out).1).trans h.out⟩
theorem FdI.notO {B : Nat} {x1 x2 x3 v1 v2 v3 : Value} {w W W' : World} (h : FdI B x1 x2 x3 v1 v2 v3 w W) (hb : Below w.heap.size w W') (e : ∀ (b : Nat) (c : Array Value) (t : TypeId) (f : Nat × Nat), W.heap[b]? = some (.cells c t f) → t ≠ 30 → W'.heap[b]? = W.heap[b]?) : FdI B x1 x2 x3 v1 v2 v3 w W' :=
  ⟨hb, (e _ _ _ _ h.obx (by decide)).trans h.obx, (e _ _ _ _ h.res (by decide)).trans h.res, (e _ _ _ _ h.out (by decide)).trans h.out⟩
theorem FdI.put2 {B : Nat} {x1 x2 x3 v1 v2 v3 : Value} {w W : World} (h : FdI B x1 x2 x3 v1 v2 v3 w W) (hB : w.heap.size ≤ B) (v : Value) : FdI B x1 x2 x3 v1 v2 v w (W.setCell ⟨B + 2, 2, none⟩ v) :=
  ⟨h.bel.setCell (p := ⟨B + 2, 2, none⟩) (by show w.heap.size ≤ B + 2; omega) _, (Below.heap_setCell _ _ _ _ (by show B ≠ B + 2; omega)).trans h.obx, (Below.heap_setCell _ _ _ _ (by show B + 1 ≠ B + 2; omega)).trans h.res, tri_arr (tri_set2 (thr_row h.out) v)⟩

end Go.Proofs.Ytcajofdmadpmoaa
