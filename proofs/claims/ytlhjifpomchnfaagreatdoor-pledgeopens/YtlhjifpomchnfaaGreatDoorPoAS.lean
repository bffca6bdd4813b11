/- attestref5: places, Shows. Rows of pointers that the call owns. What package chain must answer; attestlaw3.done, of that. -/
import Derived.Test.YtlhjifpomchnfaaGreatDoorPoAR
import Derived.Test.YtlhjifpomchnfaaGreatDoorTres
import Derived.Test.YtlhjifpomchnfaaGreatDoorPls
import Derived.Test.YtlhjifpomchnfaaGreatDoorDoms
namespace Go.Proofs.YtlhjifpomchnfaaGreatDoor
open Go.RowKit

theorem RCn.below {q : Nat} {w w' : World} {r : Nat} {D : List Int} {lo : Nat} (h : RCn q w r D lo) (e : Below w.heap.size w w') : RCn q w' r D lo := by
  obtain ⟨g, c, h1, h2, h3⟩ := h
  exact ⟨g, c, (e.block _ (Array.getElem?_eq_some_iff.1 h1).1).trans h1, h2.below e, h3⟩

end Go.Proofs.YtlhjifpomchnfaaGreatDoor

namespace Go.Proofs.YtlhjifpomchnfaaGreatDoor
open Go.RowKit

def ptrs (cs : List Nat) : List Value := cs.map fun c => .pointer (some ⟨c, 0, none⟩)
def OwnP (base : Nat) (w : World) (t : TypeId) (v : Value) (cs : List Nat) : Prop := w.ownsRow base t 1 v cs.length (ptrs cs)
theorem ptrs_at {cs : List Nat} {k : Nat} (h : k < cs.length) : (ptrs cs)[k]? = some (.pointer (some ⟨cs.getD k 0, 0, none⟩)) := by
  unfold ptrs
  simp [h]
theorem OwnP.one (w : World) (t : TypeId) (c : Nat) : OwnP w.heap.size (w.alloc (.cells #[.pointer (some ⟨c, 0, none⟩)] t)) t (.slice (some ⟨w.heap.size, 0, none⟩) 1 1) [c] :=
  ⟨by simp [ptrs], .inr ⟨w.heap.size, 1, #[.pointer (some ⟨c, 0, none⟩)], rfl, Nat.le_refl _, heap_alloc_new w _, Nat.le_refl _, by unfold maxLen; omega, rfl, by simp [ptrs]⟩⟩
theorem OwnP.mono {base base' : Nat} {w : World} {t : TypeId} {v : Value} {cs : List Nat} (h : OwnP base w t v cs) (hb : base' ≤ base) : OwnP base' w t v cs := by
  obtain ⟨h1, h2⟩ := h
  refine ⟨h1, h2.imp id ?_⟩
  rintro ⟨g, cap, cur, e, hg, r⟩
  exact ⟨g, cap, cur, e, by omega, r⟩
/-- its form, where it holds something -/
theorem OwnP.form {base : Nat} {w : World} {t : TypeId} {v : Value} {cs : List Nat} (h : OwnP base w t v cs) (h0 : 0 < cs.length) : ∃ g cap, v = .slice (some ⟨g, 0, none⟩) cs.length cap ∧ base ≤ g ∧ g < w.heap.size ∧ v.ownBlock = some g ∧ (∃ cur f, w.heap[g]? = some (.cells cur t f)) ∧ cs.length ≤ cap ∧ ∀ k, k < cs.length → w.cell? ⟨g, k, none⟩ = some (.pointer (some ⟨cs.getD k 0, 0, none⟩)) := by
  have h' := h
  obtain ⟨h1, h2⟩ := h
  rcases h2 with ⟨_, h3⟩ | ⟨g, cap, cur, rfl, hg, hb, hn, hm, hs, ht⟩
  · omega
  · refine ⟨g, cap, rfl, hg, (Array.getElem?_eq_some_iff.1 hb).1, rfl, ⟨cur, _, hb⟩, hn, fun k hk => ?_⟩
    rw [← ptrs_at hk]
    exact World.ownsRow.cellAt h' k (by omega)
/-- another block's turn leaves it -/
theorem OwnP.kept {base : Nat} {w w' : World} {t : TypeId} {v : Value} {cs : List Nat} {own : Option Nat} (h : OwnP base w t v cs) (e : w.grownBy w' own) (hne : v.ownBlock = none ∨ v.ownBlock ≠ own) : OwnP base w' t v cs := World.ownsRow.kept h e hne
theorem OwnP.below {base : Nat} {w w' : World} {t : TypeId} {v : Value} {cs : List Nat} (h : OwnP base w t v cs) (e : Below w.heap.size w w') : OwnP base w' t v cs := by
  refine h.kept (own := none) ⟨e.os, e.tape, e.output, e.size, fun k hk _ => e.block k hk⟩ ?_
  cases v.ownBlock with
  | none => exact .inl rfl
  | some k => exact .inr (by simp)
/-- l[:k] -/
theorem OwnP.take {base : Nat} {w : World} {t : TypeId} {g cap k : Nat} {cs : List Nat} (h : OwnP base w t (.slice (some ⟨g, 0, none⟩) cs.length cap) cs) (hk : k ≤ cs.length) : OwnP base w t (.slice (some ⟨g, 0, none⟩) k cap) (cs.take k) := by
  obtain ⟨h1, h2⟩ := h
  rcases h2 with ⟨e1, _⟩ | ⟨g', cap', cur, e1, r1, r2, r3, r4, r5, r6⟩
  · cases e1
  · cases e1
    refine ⟨by simp [ptrs], .inr ⟨g, cap, cur, by rw [List.length_take, Nat.min_eq_left hk], r1, r2, by rw [List.length_take]; omega, r4, r5, ?_⟩⟩
    have e2 : ptrs (cs.take k) = (ptrs cs).take k := by unfold ptrs; rw [List.map_take]
    rw [e2, ← r6, List.take_take, List.length_take]
    congr 1
    omega

end Go.Proofs.YtlhjifpomchnfaaGreatDoor

namespace Go.Proofs.YtlhjifpomchnfaaGreatDoor
open Go.RowKit

theorem NumL.other {w w' : World} {a : Option Addr} {c s : Nat} {l : List Int} (h : NumL w a c l) (e : w.grownBy w' (some s)) (hs : ∀ (cs : Array Value) (f : Nat × Nat), w.heap[s]? ≠ some (.cells cs 3 f)) : NumL w' a c l :=
  h.blocks e.size (fun g cs f hg => gb_blk e (Array.getElem?_eq_some_iff.1 hg).1 (fun he => hs cs f (by rw [← he]; exact hg)))
end Go.Proofs.YtlhjifpomchnfaaGreatDoor
