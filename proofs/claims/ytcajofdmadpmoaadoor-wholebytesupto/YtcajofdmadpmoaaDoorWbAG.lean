/- attestsame.Foldeds. Rows of pointers that the call owns. -/
import Derived.Test.YtcajofdmadpmoaaDoorFolI
import Derived.Test.YtcajofdmadpmoaaDoorChnA
namespace Go.Proofs.YtcajofdmadpmoaaDoor
open Go.RowKit

theorem thr_row {W : World} {g : Nat} {a b c : Value} {t : TypeId} (h : W.heap[g]? = some (.cells #[a, b, c] t (0, 0))) : W.rowIs g t 3 (tri a b c) :=
  ⟨#[a, b, c], h, rfl, fun i hi => by
    have : i = 0 ∨ i = 1 ∨ i = 2 := by omega
    rcases this with rfl | rfl | rfl <;> rfl⟩

/-- what stands while a Folded is copied -/
structure FdI (B : Nat) (x1 x2 x3 v1 v2 v3 : Value) (w W : World) : Prop where
  bel : Below w.heap.size w W
  obx : W.heap[B]? = some (.cells #[x1, x2, x3] 26 (0, 0))
  res : W.heap[B + 1]? = some (.cells #[.slice none 0 0, .slice none 0 0, .slice none 0 0] 26 (0, 0))
  out : W.heap[B + 2]? = some (.cells #[v1, v2, v3] 26 (0, 0))
theorem FdI.step {B : Nat} {x1 x2 x3 v1 v2 v3 : Value} {w W W' : World} (h : FdI B x1 x2 x3 v1 v2 v3 w W) (e : Below W.heap.size W W') : FdI B x1 x2 x3 v1 v2 v3 w W' :=
  ⟨h.bel.trans (e.mono h.bel.size), (e.block _ (Array.getElem?_eq_some_iff.1 h.obx).1).trans h.obx, (e.block _ (Array.getElem?_eq_some_iff.1 h.res).1).trans h.res, (e.block _ (Array.getElem?_eq_some_iff.1 h.out).1).trans h.out⟩
theorem FdI.notO {B : Nat} {x1 x2 x3 v1 v2 v3 : Value} {w W W' : World} (h : FdI B x1 x2 x3 v1 v2 v3 w W) (hb : Below w.heap.size w W') (e : ∀ (b : Nat) (c : Array Value) (t : TypeId) (f : Nat × Nat), W.heap[b]? = some (.cells c t f) → t ≠ 28 → W'.heap[b]? = W.heap[b]?) : FdI B x1 x2 x3 v1 v2 v3 w W' :=
  ⟨hb, (e _ _ _ _ h.obx (by decide)).trans h.obx, (e _ _ _ _ h.res (by decide)).trans h.res, (e _ _ _ _ h.out (by decide)).trans h.out⟩
theorem FdI.put2 {B : Nat} {x1 x2 x3 v1 v2 v3 : Value} {w W : World} (h : FdI B x1 x2 x3 v1 v2 v3 w W) (hB : w.heap.size ≤ B) (v : Value) : FdI B x1 x2 x3 v1 v2 v w (W.setCell ⟨B + 2, 2, none⟩ v) :=
  ⟨h.bel.setCell (p := ⟨B + 2, 2, none⟩) (by show w.heap.size ≤ B + 2; omega) _, (Below.heap_setCell _ _ _ _ (by show B ≠ B + 2; omega)).trans h.obx, (Below.heap_setCell _ _ _ _ (by show B + 1 ≠ B + 2; omega)).trans h.res, tri_arr (tri_set2 (thr_row h.out) v)⟩

end Go.Proofs.YtcajofdmadpmoaaDoor

namespace Go.Proofs.YtcajofdmadpmoaaDoor
open Go.RowKit

def ptrs (cs : List Nat) : List Value := cs.map fun c => .pointer (some ⟨c, 0, none⟩)
def OwnP (base : Nat) (w : World) (t : TypeId) (v : Value) (cs : List Nat) : Prop := w.ownsRow base t 1 v cs.length (ptrs cs)
theorem ptrs_at {cs : List Nat} {k : Nat} (h : k < cs.length) : (ptrs cs)[k]? = some (.pointer (some ⟨cs.getD k 0, 0, none⟩)) := by
  unfold ptrs
  simp [h]
theorem OwnP.one (w : World) (t : TypeId) (c : Nat) : OwnP w.heap.size (w.alloc (.cells #[.pointer (some ⟨c, 0, none⟩)] t)) t (.slice (some ⟨w.heap.size, 0, none⟩) 1 1) [c] :=
  ⟨by simp [ptrs], .inr ⟨w.heap.size, 1, #[.pointer (some ⟨c, 0, none⟩)], rfl, Nat.le_refl _, heap_alloc_new w _, Nat.le_refl _, by unfold maxLen; omega, rfl, by simp [ptrs]⟩⟩
theorem OwnP.mono {base base' : Nat} {w : World} {t : TypeId} {v : Value} {cs : List Nat} (h : OwnP base w t v cs) (hb : base' ≤ base) : OwnP base' w t v cs := by
  obtain ⟨h1, h2⟩ := h
  refine ⟨h1, h2.imp id ?_⟩
  rintro ⟨g, cap, cur, e, hg, r⟩
  exact ⟨g, cap, cur, e, by omega, r⟩
/-- its form, where it holds something -/
theorem OwnP.form {base : Nat} {w : World} {t : TypeId} {v : Value} {cs : List Nat} (h : OwnP base w t v cs) (h0 : 0 < cs.length) : ∃ g cap, v = .slice (some ⟨g, 0, none⟩) cs.length cap ∧ base ≤ g ∧ g < w.heap.size ∧ v.ownBlock = some g ∧ (∃ cur f, w.heap[g]? = some (.cells cur t f)) ∧ cs.length ≤ cap ∧ ∀ k, k < cs.length → w.cell? ⟨g, k, none⟩ = some (.pointer (some ⟨cs.getD k 0, 0, none⟩)) := by
  have h' := h
  obtain ⟨h1, h2⟩ := h
  rcases h2 with ⟨_, h3⟩ | ⟨g, cap, cur, rfl, hg, hb, hn, hm, hs, ht⟩
  · omega
  · refine ⟨g, cap, rfl, hg, (Array.getElem?_eq_some_iff.1 hb).1, rfl, ⟨cur, _, hb⟩, hn, fun k hk => ?_⟩
    rw [← ptrs_at hk]
    exact World.ownsRow.cellAt h' k (by omega)
/-- another block's turn leaves it -/
theorem OwnP.kept {base : Nat} {w w' : World} {t : TypeId} {v : Value} {cs : List Nat} {own : Option Nat} (h : OwnP base w t v cs) (e : w.grownBy w' own) (hne : v.ownBlock = none ∨ v.ownBlock ≠ own) : OwnP base w' t v cs := World.ownsRow.kept h e hne
theorem OwnP.below {base : Nat} {w w' : World} {t : TypeId} {v : Value} {cs : List Nat} (h : OwnP base w t v cs) (e : Below w.heap.size w w') : OwnP base w' t v cs := by
  refine h.kept (own := none) ⟨e.os, e.tape, e.output, e.size, fun k hk _ => e.block k hk⟩ ?_
  cases v.ownBlock with
  | none => exact .inl rfl
  | some k => exact .inr (by simp)
/-- l[:k] -/
theorem OwnP.take {base : Nat} {w : World} {t : TypeId} {g cap k : Nat} {cs : List Nat} (h : OwnP base w t (.slice (some ⟨g, 0, none⟩) cs.length cap) cs) (hk : k ≤ cs.length) : OwnP base w t (.slice (some ⟨g, 0, none⟩) k cap) (cs.take k) := by
  obtain ⟨h1, h2⟩ := h
  rcases h2 with ⟨e1, _⟩ | ⟨g', cap', cur, e1, r1, r2, r3, r4, r5, r6⟩
  · cases e1
  · cases e1
    refine ⟨by simp [ptrs], .inr ⟨g, cap, cur, by rw [List.length_take, Nat.min_eq_left hk], r1, r2, by rw [List.length_take]; omega, r4, r5, ?_⟩⟩
    have e2 : ptrs (cs.take k) = (ptrs cs).take k := by unfold ptrs; rw [List.map_take]
    rw [e2, ← r6, List.take_take, List.length_take]
    congr 1
    omega

end Go.Proofs.YtcajofdmadpmoaaDoor
