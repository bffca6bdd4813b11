/- attestref3, the chains: Step, Begin, Draw, Place. -/
import Derived.Test.YtgcjpddpolaofahGreatRefs
import Derived.Test.YtgcjpddpolaofahGreatSpgH
namespace Go.Proofs.YtgcjpddpolaofahGreat
open Go.RowKit

/-- a list that lies in a block of numbers -/
def NumL (w : World) (a : Option Addr) (c : Nat) (l : List Int) : Prop := Lst w.heap.size w a c l ∧ (0 < l.length → ∃ g o cs f, a = some ⟨g, o, none⟩ ∧ w.heap[g]? = some (.cells cs 3 f))
theorem numL_nil (w : World) : NumL w none 0 [] := ⟨⟨fun _ h => absurd h (Nat.not_lt_zero _), Nat.zero_le _, fun _ => rfl⟩, fun h => absurd h (Nat.lt_irrefl _)⟩
theorem LstD.num {w : World} {g N : Nat} {l : List Int} (h : LstD w g N l) : NumL w (some ⟨g, 0, none⟩) N l := ⟨h.1, fun _ => by obtain ⟨c, f, e⟩ := h.2; exact ⟨g, 0, c, f, rfl, e⟩⟩
theorem NumL.blocks {w w' : World} {a : Option Addr} {c : Nat} {l : List Int} (h : NumL w a c l) (hs : w.heap.size ≤ w'.heap.size) (e : ∀ (g : Nat) (cs : Array Value) (f : Nat × Nat), w.heap[g]? = some (.cells cs 3 f) → w'.heap[g]? = w.heap[g]?) : NumL w' a c l := by
  obtain ⟨hl, hn⟩ := h
  refine ⟨⟨fun k hk => ?_, hl.room, hl.nil⟩, fun h0 => ?_⟩
  · obtain ⟨b, o, rfl, h2, h3⟩ := hl.row k hk
    obtain ⟨g', o', cs, f, e1, hb⟩ := hn (by omega)
    cases e1
    exact ⟨b, o, rfl, by omega, (World.cell?_of_block (w := w) (a := ⟨b, o + k, none⟩) (e b cs f hb)).trans h3⟩
  · obtain ⟨g, o, cs, f, rfl, hb⟩ := hn h0
    exact ⟨g, o, cs, f, rfl, (e g cs f hb).trans hb⟩
theorem NumL.below {w w' : World} {a : Option Addr} {c : Nat} {l : List Int} (h : NumL w a c l) (e : Below w.heap.size w w') : NumL w' a c l :=
  h.blocks e.size (fun g _ _ hg => e.block g (Array.getElem?_eq_some_iff.1 hg).1)

theorem gb_to {g n : Nat} {A B : World} (h : A.grownBy B (some g)) (hn : n ≤ g) (hs : n ≤ A.heap.size) : Below n A B := ⟨h.os, h.tape, h.output, h.size, fun k hk => gb_blk h (by omega) (by omega)⟩
theorem duo0 {W : World} {g : Nat} {a b : Value} {t : TypeId} (h : W.heap[g]? = some (.cells #[a, b] t (0, 0))) : W.cell? ⟨g, 0, none⟩ = some a := by simp [World.cell?, h]
theorem duo1 {W : World} {g : Nat} {a b : Value} {t : TypeId} (h : W.heap[g]? = some (.cells #[a, b] t (0, 0))) : W.cell? ⟨g, 1, none⟩ = some b := by simp [World.cell?, h]
theorem duoF {W : World} {g : Nat} {a b : Value} {t : TypeId} (h : W.heap[g]? = some (.cells #[a, b] t (0, 0))) (i : Nat) : W.frozen? ⟨g, i, none⟩ = false := by simp [World.frozen?, h]
theorem duo_put1 {W : World} {g : Nat} {a b : Value} {t : TypeId} (h : W.heap[g]? = some (.cells #[a, b] t (0, 0))) (v : Value) : (W.setCell ⟨g, 1, none⟩ v).heap[g]? = some (.cells #[a, v] t (0, 0)) := by
  simp [World.setCell, Array.getElem?_modify, h]

end Go.Proofs.YtgcjpddpolaofahGreat
