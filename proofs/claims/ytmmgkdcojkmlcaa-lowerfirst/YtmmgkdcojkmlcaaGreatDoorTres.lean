/- Rows of rows that a call owns; attestsame.Copied, Rows. attestref3, the trees: Nodes. attestref3, the trees: Once. attestref5.Open. attestref3, the trees: Climb's Up. attestref3, the trees: Climb's Up: what lacks. attestref3, the trees: Climb's Up: a node of another length. attestref3, the trees: Climb's Up: a node is taken. attestref3, the trees: Climb's Up: a row that is shown. attestref3, the trees: Climb's Up: the tree of what is shown. attestref3: Check. Trees, plain facts: what is opened is taken. -/
import Derived.Test.YtmmgkdcojkmlcaaGreatDoorRefs
import Derived.Test.YtmmgkdcojkmlcaaGreatDoorSpgs
import Derived.Deep.Onto
import Derived.OneCell
import Derived.Test.YtmmgkdcojkmlcaaGreatDoorLFBK
import Derived.StillTailTactics
namespace Go.Proofs.YtmmgkdcojkmlcaaGreatDoor
open Go.RowKit

/-- a block that is no row of lists or of rows, no Opening, no Folded and no chain of either side -/
def NotRow (w : World) (b : Nat) : Prop := ∃ c t f, w.heap[b]? = some (.cells c t f) ∧ t ≠ 25 ∧ t ≠ 368 ∧ t ≠ 368 ∧ t ≠ 368 ∧ t ≠ 368 ∧ t ≠ 368
/-- a list -/
def SlR (w : World) (r : List Int) (v : Value) : Prop := ∃ a c, v = .slice a r.length c ∧ Lst w.heap.size w a c r ∧ (0 < r.length → ∃ b o, a = some ⟨b, o, none⟩ ∧ NotRow w b)
theorem SlR.blocks {w w' : World} {r : List Int} {v : Value} (h : SlR w r v) (hs : w.heap.size ≤ w'.heap.size) (e : ∀ b, b < w.heap.size → NotRow w b → w'.heap[b]? = w.heap[b]?) : SlR w' r v := by
  obtain ⟨a, c, rfl, hl, hn⟩ := h
  refine ⟨a, c, rfl, ⟨fun k hk => ?_, hl.room, hl.nil⟩, fun h0 => ?_⟩
  · obtain ⟨b, o, rfl, h2, h3⟩ := hl.row k hk
    obtain ⟨b', o', e1, hb⟩ := hn (by omega)
    cases e1
    exact ⟨b, o, rfl, by omega, (World.cell?_of_block (w := w) (a := ⟨b, o + k, none⟩) (e b h2 hb)).trans h3⟩
  · obtain ⟨b, o, rfl, hb⟩ := hn h0
    obtain ⟨b', o', e1, h2, _⟩ := hl.row 0 h0
    cases e1
    obtain ⟨c', t, f, h3, h4⟩ := hb
    exact ⟨b, o, rfl, c', t, f, (e b h2 ⟨c', t, f, h3, h4⟩).trans h3, h4⟩
theorem SlR.keep {w w' : World} {r : List Int} {v : Value} (h : SlR w r v) (e : Below w.heap.size w w') : SlR w' r v := h.blocks e.size (fun b hb _ => e.block b hb)
theorem SlR.one {w : World} {r : List Int} {v : Value} (h : SlR w r v) : v.oneCell' = true := by obtain ⟨a, c, rfl, _⟩ := h; rfl
theorem SlR.lst {w : World} {r : List Int} {v : Value} (h : SlR w r v) : ∃ a c, v = .slice a r.length c ∧ Lst w.heap.size w a c r := by obtain ⟨a, c, h1, h2, _⟩ := h; exact ⟨a, c, h1, h2⟩
/-- rows of rows of the call's own -/
def OwnR (base : Nat) (w : World) (v : Value) (rs : List (List Int)) : Prop := ∃ vals : List Value, w.ownsRow base 25 1 v rs.length vals ∧ ∀ j, j < rs.length → ∃ u, vals[j]? = some u ∧ SlR w (rat rs j) u
theorem gb_of_below {w w' : World} (e : Below w.heap.size w w') : w.grownBy w' none := ⟨e.os, e.tape, e.output, e.size, fun k hk _ => e.block k hk⟩
theorem OwnR.keep {base : Nat} {w w' : World} {v : Value} {rs : List (List Int)} (h : OwnR base w v rs) (e : Below w.heap.size w w') : OwnR base w' v rs := by
  obtain ⟨vals, h1, h2⟩ := h
  refine ⟨vals, h1.kept (gb_of_below e) ?_, fun j hj => ?_⟩
  · cases v.ownBlock with
    | none => exact .inl rfl
    | some k => exact .inr (by simp)
  · obtain ⟨u, h3, h4⟩ := h2 j hj
    exact ⟨u, h3, h4.keep e⟩
theorem OwnR.nil (base : Nat) (w : World) : OwnR base w (.slice none 0 0) [] := ⟨[], World.ownsRow_nil _ _ _ _, fun j hj => by simp at hj⟩
theorem OwnR.lst {base : Nat} {w : World} {v : Value} {rs : List (List Int)} (h : OwnR base w v rs) : ∃ a c, v = .slice a rs.length c ∧ LstR w.heap.size w a c rs := by
  obtain ⟨vals, h1, h2⟩ := h
  rcases h1.2 with ⟨rfl, h0⟩ | ⟨g, cap, cur, rfl, hb, hg, hn, hm, hs, ht⟩
  · exact ⟨none, 0, by rw [h0], fun k hk => by omega, by omega, fun _ => rfl⟩
  · refine ⟨some ⟨g, 0, none⟩, cap, rfl, fun k hk => ?_, hn, fun e => by cases e⟩
    obtain ⟨u, h3, h4⟩ := h2 k hk
    obtain ⟨a, c, rfl, hl⟩ := h4.lst
    refine ⟨g, 0, a, c, rfl, (Array.getElem?_eq_some_iff.1 hg).1, ?_, hl⟩
    rw [Nat.zero_add, h1.cellAt k (by omega), h3]
theorem OwnR.mono {base base' : Nat} {w : World} {v : Value} {rs : List (List Int)} (h : OwnR base w v rs) (e : base' ≤ base) : OwnR base' w v rs := by
  obtain ⟨vals, h1, h2⟩ := h
  exact ⟨vals, World.ownsRow.mono h1 e, h2⟩
theorem OwnR.len {base : Nat} {w : World} {v : Value} {rs : List (List Int)} (h : OwnR base w v rs) : lenV v = rs.length := by obtain ⟨a, c, rfl, _⟩ := h.lst; rfl
theorem OwnR.own {base : Nat} {w : World} {v : Value} {rs : List (List Int)} (h : OwnR base w v rs) : ∀ k, v.ownBlock = some k → base ≤ k ∧ k < w.heap.size ∧ ¬ NotRow w k := fun k hk => by
  obtain ⟨vals, h1, _⟩ := h
  refine ⟨(h1.lt k hk).1, (h1.lt k hk).2, ?_⟩
  rintro ⟨c, t, f, h3, h4⟩
  rcases h1.2 with ⟨rfl, _⟩ | ⟨g, cap, cur, rfl, hb, hg, _⟩
  · cases hk
  · cases hk
    rw [hg] at h3
    cases h3
    exact h4.1 rfl

end Go.Proofs.YtmmgkdcojkmlcaaGreatDoor

namespace Go.Proofs.YtmmgkdcojkmlcaaGreatDoor
open Go.RowKit

end Go.Proofs.YtmmgkdcojkmlcaaGreatDoor

namespace Go.Proofs.YtmmgkdcojkmlcaaGreatDoor
open Go.RowKit

attribute [local irreducible] wpStill

end Go.Proofs.YtmmgkdcojkmlcaaGreatDoor

namespace Go.Proofs.YtmmgkdcojkmlcaaGreatDoor
open Go.RowKit

end Go.Proofs.YtmmgkdcojkmlcaaGreatDoor

namespace Go.Proofs.YtmmgkdcojkmlcaaGreatDoor
open Go.RowKit

/-- six cells -/
def six (a b c d e f : Value) : Nat → Value
  | 0 => a
  | 1 => b
  | 2 => c
  | 3 => d
  | 4 => e
  | _ => f
theorem LstD.gb {w w' : World} {g N C : Nat} {l : List Int} (h : LstD w g N l) (e : w.grownBy w' (some C)) (hne : g ≠ C) : LstD w' g N l := by
  obtain ⟨h1, c, f, h2⟩ := h
  have hg : g < w.heap.size := (Array.getElem?_eq_some_iff.1 h2).1
  have hb := gb_blk e hg hne
  refine ⟨⟨fun k hk => ?_, h1.room, h1.nil⟩, c, f, hb.trans h2⟩
  obtain ⟨b, o, e1, e2, e3⟩ := h1.row k hk
  cases e1
  exact ⟨g, 0, rfl, Nat.lt_of_lt_of_le hg e.size, (World.cell?_of_block (w := w) (a := ⟨g, 0 + k, none⟩) hb).trans e3⟩

end Go.Proofs.YtmmgkdcojkmlcaaGreatDoor

namespace Go.Proofs.YtmmgkdcojkmlcaaGreatDoor
open Go.RowKit

attribute [local irreducible] wpStill

end Go.Proofs.YtmmgkdcojkmlcaaGreatDoor

namespace Go.Proofs.YtmmgkdcojkmlcaaGreatDoor
open Go.RowKit

attribute [local irreducible] wpStill

end Go.Proofs.YtmmgkdcojkmlcaaGreatDoor

namespace Go.Proofs.YtmmgkdcojkmlcaaGreatDoor
open Go.RowKit

attribute [local irreducible] wpStill

end Go.Proofs.YtmmgkdcojkmlcaaGreatDoor

namespace Go.Proofs.YtmmgkdcojkmlcaaGreatDoor
open Go.RowKit

attribute [local irreducible] wpStill

end Go.Proofs.YtmmgkdcojkmlcaaGreatDoor

namespace Go.Proofs.YtmmgkdcojkmlcaaGreatDoor
open Go.RowKit

attribute [local irreducible] wpStill

end Go.Proofs.YtmmgkdcojkmlcaaGreatDoor

namespace Go.Proofs.YtmmgkdcojkmlcaaGreatDoor
open Go.RowKit

/-- places ascending below N -/
def AscN (N : Int) (ps : List Int) : Prop := ∀ j, j < ps.length → 0 ≤ zat ps j ∧ zat ps j < N ∧ (0 < j → zat ps (j - 1) < zat ps j)
instance (N : Int) (ps : List Int) : Decidable (AscN N ps) := by unfold AscN; infer_instance

attribute [local irreducible] wpStill

end Go.Proofs.YtmmgkdcojkmlcaaGreatDoor

namespace Go.Proofs.YtmmgkdcojkmlcaaGreatDoor
open Go.RowKit

/-! ## alike as elements -/
end Go.Proofs.YtmmgkdcojkmlcaaGreatDoor
