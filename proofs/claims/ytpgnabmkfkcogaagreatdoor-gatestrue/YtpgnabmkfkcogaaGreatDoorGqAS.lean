/- attestref3, the chains: Step, Begin, Draw, Place. Rows of pointers that the call owns. -/
import Derived.Test.YtpgnabmkfkcogaaGreatDoorRefs
import Derived.Test.YtpgnabmkfkcogaaGreatDoorGqAH
namespace Go.Proofs.YtpgnabmkfkcogaaGreatDoor
open Go.RowKit

/-- a list that lies in a block of numbers -/
def NumL (w : World) (a : Option Addr) (c : Nat) (l : List Int) : Prop := Lst w.heap.size w a c l ∧ (0 < l.length → ∃ g o cs f, a = some ⟨g, o, none⟩ ∧ w.heap[g]? = some (.cells cs 3 f))
theorem numL_nil (w : World) : NumL w none 0 [] := ⟨⟨fun _ h => absurd h (Nat.not_lt_zero _), Nat.zero_le _, fun _ => rfl⟩, fun h => absurd h (Nat.lt_irrefl _)⟩
theorem NumL.blocks {w w' : World} {a : Option Addr} {c : Nat} {l : List Int} (h : NumL w a c l) (hs : w.heap.size ≤ w'.heap.size) (e : ∀ (g : Nat) (cs : Array Value) (f : Nat × Nat), w.heap[g]? = some (.cells cs 3 f) → w'.heap[g]? = w.heap[g]?) : NumL w' a c l := by
  obtain ⟨hl, hn⟩ := h
  refine ⟨⟨fun k hk => ?_, hl.room, hl.nil⟩, fun h0 => ?_⟩
  · obtain ⟨b, o, rfl, h2, h3⟩ := hl.row k hk
    obtain ⟨g', o', cs, f, e1, hb⟩ := hn (by omega)
    cases e1
    exact ⟨b, o, rfl, by omega, (World.cell?_of_block (w := w) (a := ⟨b, o + k, none⟩) (e b cs f hb)).trans h3⟩
  · obtain ⟨g, o, cs, f, rfl, hb⟩ := hn h0
    exact ⟨g, o, cs, f, rfl, (e g cs f hb).trans hb⟩
theorem NumL.below {w w' : World} {a : Option Addr} {c : Nat} {l : List Int} (h : NumL w a c l) (e : Below w.heap.size w w') : NumL w' a c l :=
  h.blocks e.size (fun g _ _ hg => e.block g (Array.getElem?_eq_some_iff.1 hg).1)

/-- a chain of the reference in memory -/
def RCh (q : Nat) (w : World) (r : Nat) (D : List Int) : Prop := ∃ a c, w.heap[r]? = some (.cells #[.int .i64 q, .slice a D.length c] 61 (0, 0)) ∧ NumL w a c D
theorem RCh.lt {q : Nat} {w : World} {r : Nat} {D : List Int} (h : RCh q w r D) : r < w.heap.size := by obtain ⟨_, _, h, _⟩ := h; exact (Array.getElem?_eq_some_iff.1 h).1
theorem RCh.blocks {q : Nat} {w w' : World} {r : Nat} {D : List Int} (h : RCh q w r D) (hs : w.heap.size ≤ w'.heap.size) (hr : w'.heap[r]? = w.heap[r]?) (e : ∀ (g : Nat) (cs : Array Value) (f : Nat × Nat), w.heap[g]? = some (.cells cs 3 f) → w'.heap[g]? = w.heap[g]?) : RCh q w' r D := by
  obtain ⟨a, c, h1, h2⟩ := h
  exact ⟨a, c, hr.trans h1, h2.blocks hs e⟩
theorem RCh.below {q : Nat} {w w' : World} {r : Nat} {D : List Int} (h : RCh q w r D) (e : Below w.heap.size w w') : RCh q w' r D :=
  h.blocks e.size (e.block r h.lt) (fun g _ _ hg => e.block g (Array.getElem?_eq_some_iff.1 hg).1)
/-- another chain's step leaves it -/
theorem RCh.other {q : Nat} {w w' : World} {r s : Nat} {D : List Int} (h : RCh q w r D) (e : w.grownBy w' (some s)) (hne : r ≠ s) (hs : ∀ (cs : Array Value) (f : Nat × Nat), w.heap[s]? ≠ some (.cells cs 3 f)) : RCh q w' r D :=
  h.blocks e.size (gb_blk e h.lt hne) (fun g cs f hg => gb_blk e (Array.getElem?_eq_some_iff.1 hg).1 (fun he => hs cs f (by rw [← he]; exact hg)))

/-- a chain of the reference whose digest lies in a block from lo on -/
def RCn (q : Nat) (w : World) (r : Nat) (D : List Int) (lo : Nat) : Prop := ∃ g c, w.heap[r]? = some (.cells #[.int .i64 q, .slice (some ⟨g, 0, none⟩) D.length c] 61 (0, 0)) ∧ NumL w (some ⟨g, 0, none⟩) c D ∧ lo ≤ g
theorem RCn.own {q : Nat} {w w' : World} {r : Nat} {D : List Int} {lo : Nat} {own : Option Nat} (h : RCn q w r D lo) (e : w.grownBy w' own) (hr : some r ≠ own) (ho : ∀ k, own = some k → k < lo) : RCh q w' r D := by
  obtain ⟨g, c, h1, h2, h3⟩ := h
  have hrl : r < w.heap.size := (Array.getElem?_eq_some_iff.1 h1).1
  refine ⟨some ⟨g, 0, none⟩, c, (e.block r hrl hr).trans h1, ⟨fun k hk => ?_, h2.1.room, h2.1.nil⟩, fun h0 => ?_⟩
  · obtain ⟨b, o, e1, h4, h5⟩ := h2.1.row k hk
    cases e1
    refine ⟨g, 0, rfl, by have := e.size; omega, ?_⟩
    exact (World.cell?_of_block (w := w) (a := ⟨g, 0 + k, none⟩) (e.block g h4 (fun e2 => by have := ho g e2.symm; omega))).trans h5
  · obtain ⟨b, o, cs, f, e1, h4⟩ := h2.2 h0
    cases e1
    exact ⟨g, 0, cs, f, rfl, (e.block g (Array.getElem?_eq_some_iff.1 h4).1 (fun e2 => by have := ho g e2.symm; omega)).trans h4⟩

theorem gb_to {g n : Nat} {A B : World} (h : A.grownBy B (some g)) (hn : n ≤ g) (hs : n ≤ A.heap.size) : Below n A B := ⟨h.os, h.tape, h.output, h.size, fun k hk => gb_blk h (by omega) (by omega)⟩
theorem RCh.not {q : Nat} {w : World} {r : Nat} {D : List Int} (h : RCh q w r D) : ∀ (cs : Array Value) (f : Nat × Nat), w.heap[r]? ≠ some (.cells cs 3 f) := fun cs f e => by
  obtain ⟨_, _, h, _⟩ := h
  rw [h] at e
  simp at e

end Go.Proofs.YtpgnabmkfkcogaaGreatDoor

namespace Go.Proofs.YtpgnabmkfkcogaaGreatDoor
open Go.RowKit

def ptrs (cs : List Nat) : List Value := cs.map fun c => .pointer (some ⟨c, 0, none⟩)
def OwnP (base : Nat) (w : World) (t : TypeId) (v : Value) (cs : List Nat) : Prop := w.ownsRow base t 1 v cs.length (ptrs cs)
theorem ptrs_at {cs : List Nat} {k : Nat} (h : k < cs.length) : (ptrs cs)[k]? = some (.pointer (some ⟨cs.getD k 0, 0, none⟩)) := by
  unfold ptrs
  simp [h]
theorem OwnP.one (w : World) (t : TypeId) (c : Nat) : OwnP w.heap.size (w.alloc (.cells #[.pointer (some ⟨c, 0, none⟩)] t)) t (.slice (some ⟨w.heap.size, 0, none⟩) 1 1) [c] :=
  ⟨by simp [ptrs], .inr ⟨w.heap.size, 1, #[.pointer (some ⟨c, 0, none⟩)], rfl, Nat.le_refl _, heap_alloc_new w _, Nat.le_refl _, by unfold maxLen; omega, rfl, by simp [ptrs]⟩⟩
theorem OwnP.mono {base base' : Nat} {w : World} {t : TypeId} {v : Value} {cs : List Nat} (h : OwnP base w t v cs) (hb : base' ≤ base) : OwnP base' w t v cs := by
  obtain ⟨h1, h2⟩ := h
  refine ⟨h1, h2.imp id ?_⟩
  rintro ⟨g, cap, cur, e, hg, r⟩
  exact ⟨g, cap, cur, e, by omega, r⟩
/-- its form, where it holds something -/
theorem OwnP.form {base : Nat} {w : World} {t : TypeId} {v : Value} {cs : List Nat} (h : OwnP base w t v cs) (h0 : 0 < cs.length) : ∃ g cap, v = .slice (some ⟨g, 0, none⟩) cs.length cap ∧ base ≤ g ∧ g < w.heap.size ∧ v.ownBlock = some g ∧ (∃ cur f, w.heap[g]? = some (.cells cur t f)) ∧ cs.length ≤ cap ∧ ∀ k, k < cs.length → w.cell? ⟨g, k, none⟩ = some (.pointer (some ⟨cs.getD k 0, 0, none⟩)) := by
  have h' := h
  obtain ⟨h1, h2⟩ := h
  rcases h2 with ⟨_, h3⟩ | ⟨g, cap, cur, rfl, hg, hb, hn, hm, hs, ht⟩
  · omega
  · refine ⟨g, cap, rfl, hg, (Array.getElem?_eq_some_iff.1 hb).1, rfl, ⟨cur, _, hb⟩, hn, fun k hk => ?_⟩
    rw [← ptrs_at hk]
    exact World.ownsRow.cellAt h' k (by omega)
/-- another block's turn leaves it -/
theorem OwnP.kept {base : Nat} {w w' : World} {t : TypeId} {v : Value} {cs : List Nat} {own : Option Nat} (h : OwnP base w t v cs) (e : w.grownBy w' own) (hne : v.ownBlock = none ∨ v.ownBlock ≠ own) : OwnP base w' t v cs := World.ownsRow.kept h e hne
theorem OwnP.below {base : Nat} {w w' : World} {t : TypeId} {v : Value} {cs : List Nat} (h : OwnP base w t v cs) (e : Below w.heap.size w w') : OwnP base w' t v cs := by
  refine h.kept (own := none) ⟨e.os, e.tape, e.output, e.size, fun k hk _ => e.block k hk⟩ ?_
  cases v.ownBlock with
  | none => exact .inl rfl
  | some k => exact .inr (by simp)
/-- l[:k] -/
theorem OwnP.take {base : Nat} {w : World} {t : TypeId} {g cap k : Nat} {cs : List Nat} (h : OwnP base w t (.slice (some ⟨g, 0, none⟩) cs.length cap) cs) (hk : k ≤ cs.length) : OwnP base w t (.slice (some ⟨g, 0, none⟩) k cap) (cs.take k) := by
  obtain ⟨h1, h2⟩ := h
  rcases h2 with ⟨e1, _⟩ | ⟨g', cap', cur, e1, r1, r2, r3, r4, r5, r6⟩
  · cases e1
  · cases e1
    refine ⟨by simp [ptrs], .inr ⟨g, cap, cur, by rw [List.length_take, Nat.min_eq_left hk], r1, r2, by rw [List.length_take]; omega, r4, r5, ?_⟩⟩
    have e2 : ptrs (cs.take k) = (ptrs cs).take k := by unfold ptrs; rw [List.map_take]
    rw [e2, ← r6, List.take_take, List.length_take]
    congr 1
    omega

end Go.Proofs.YtpgnabmkfkcogaaGreatDoor
