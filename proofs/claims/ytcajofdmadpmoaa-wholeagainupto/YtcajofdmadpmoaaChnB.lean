/- Rows of pointers that the call owns. -/
import Derived.Test.YtcajofdmadpmoaaChnA
namespace Go.Proofs.Ytcajofdmadpmoaa
open Go.RowKit

def ptrs (cs : List Nat) : List Value := cs.map fun c => .pointer (some ⟨c, 0, none⟩)
def OwnP (base : Nat) (w : World) (t : TypeId) (v : Value) (cs : List Nat) : Prop := w.ownsRow base t 1 v cs.length (ptrs cs)
theorem OwnP.one (w : World) (t : TypeId) (c : Nat) : OwnP w.heap.size (w.alloc (.cells #[.pointer (some ⟨c, 0, none⟩)] t)) t (.slice (some ⟨w.heap.size, 0, none⟩) 1 1) [c] :=
  ⟨by simp [ptrs], .inr ⟨w.heap.size, 1, #[.pointer (some ⟨c, 0, none⟩)], rfl, Nat.le_refl _, heap_alloc_new w _, Nat.le_refl _, by unfold maxLen; omega, rfl, by simp [ptrs]⟩⟩
theorem OwnP.mono {base base' : Nat} {w : World} {t : TypeId} {v : Value} {cs : List Nat} (h : OwnP base w t v cs) (hb : base' ≤ base) : OwnP base' w t v cs := by
  obtain ⟨h1, h2⟩ := h
  refine ⟨h1, h2.imp id ?_⟩
  rintro ⟨g, cap, cur, e, hg, r⟩
  exact ⟨g, cap, cur, e, by omega, r⟩
/-- another block's turn leaves it -/
theorem OwnP.kept {base : Nat} {w w' : World} {t : TypeId} {v : Value} {cs : List Nat} {own : Option Nat} (h : OwnP base w t v cs) (e : w.grownBy w' own) (hne : v.ownBlock = none ∨ v.ownBlock ≠ own) : OwnP base w' t v cs := World.ownsRow.kept h e hne
theorem OwnP.below {base : Nat} {w w' : World} {t : TypeId} {v : Value} {cs : List Nat} (h : OwnP base w t v cs) (e : Below w.heap.size w w') : OwnP base w' t v cs := by
  refine h.kept (own := none) ⟨e.os, e.tape, e.output, e.size, fun k hk _ => e.block k hk⟩ ?_
  cases v.ownBlock with
  | none => exact .inl rfl
  | some k => exact .inr (by simp)
/-- l[:k] -/
theorem OwnP.take {base : Nat} {w : World} {t : TypeId} {g cap k : Nat} {cs : List Nat} (h : OwnP base w t (.slice (some ⟨g, 0, none⟩) cs.length cap) cs) (hk : k ≤ cs.length) : OwnP base w t (.slice (some ⟨g, 0, none⟩) k cap) (cs.take k) := by
  obtain ⟨h1, h2⟩ := h
  rcases h2 with ⟨e1, _⟩ | ⟨g', cap', cur, e1, r1, r2, r3, r4, r5, r6⟩
  · cases e1
  · cases e1
    refine ⟨by simp [ptrs], .inr ⟨g, cap, cur, by rw [List.length_take, Nat.min_eq_left hk], r1, r2, by rw [List.length_take]; omega, r4, r5, ?_⟩⟩
    have e2 : ptrs (cs.take k) = (ptrs cs).take k := by unfold ptrs; rw [List.map_take]
    rw [e2, ← r6, List.take_take, List.length_take]
    congr 1
    omega

end Go.Proofs.Ytcajofdmadpmoaa
