/- Rows of rows that a call owns; attestsame.Copied, Rows. attestref3, the trees: Nodes. attestref3, the trees: Once. attestref5.Open. attestref3, the trees: Climb's Up. attestref3, the trees: Climb's Up: what lacks. attestref3, the trees: Climb's Up: a node of another length. attestref3, the trees: Climb's Up: a node is taken. attestref3, the trees: Climb's Up: a row that is shown. attestref3, the trees: Climb's Up: the tree of what is shown. attestref3: Check. Trees, plain facts: what is opened is taken. -/
import Derived.Test.YtmmlphdekeflfaaGreatDoorRefs
import Derived.Test.YtmmlphdekeflfaaGreatDoorSpgs
import Derived.Deep.Onto
import Derived.OneCell
import Derived.Test.YtmmlphdekeflfaaGreatDoorPbAH
import Derived.StillTailTactics
namespace Go.Proofs.YtmmlphdekeflfaaGreatDoor
open Go.RowKit

/-- a block that is no row of lists or of rows, no Opening, no Folded and no chain of either side -/
def NotRow (w : World) (b : Nat) : Prop := ∃ c t f, w.heap[b]? = some (.cells c t f) ∧ t ≠ 23 ∧ t ≠ 49 ∧ t ≠ 103 ∧ t ≠ 61 ∧ t ≠ 22 ∧ t ≠ 391
/-- a list -/
def SlR (w : World) (r : List Int) (v : Value) : Prop := ∃ a c, v = .slice a r.length c ∧ Lst w.heap.size w a c r ∧ (0 < r.length → ∃ b o, a = some ⟨b, o, none⟩ ∧ NotRow w b)
theorem SlR.blocks {w w' : World} {r : List Int} {v : Value} (h : SlR w r v) (hs : w.heap.size ≤ w'.heap.size) (e : ∀ b, b < w.heap.size → NotRow w b → w'.heap[b]? = w.heap[b]?) : SlR w' r v := by
  obtain ⟨a, c, rfl, hl, hn⟩ := h
  refine ⟨a, c, rfl, ⟨fun k hk => ?_, hl.room, hl.nil⟩, fun h0 => ?_⟩
  · obtain ⟨b, o, rfl, h2, h3⟩ := hl.row k hk
    obtain ⟨b', o', e1, hb⟩ := hn (by omega)
    cases e1
    exact ⟨b, o, rfl, by omega, (World.cell?_of_block (w := w) (a := ⟨b, o + k, none⟩) (e b h2 hb)).trans h3⟩
  · obtain ⟨b, o, rfl, hb⟩ := hn h0
    obtain ⟨b', o', e1, h2, _⟩ := hl.row 0 h0
    cases e1
    obtain ⟨c', t, f, h3, h4⟩ := hb
    exact ⟨b, o, rfl, c', t, f, (e b h2 ⟨c', t, f, h3, h4⟩).trans h3, h4⟩
theorem SlR.keep {w w' : World} {r : List Int} {v : Value} (h : SlR w r v) (e : Below w.heap.size w w') : SlR w' r v := h.blocks e.size (fun b hb _ => e.block b hb)
theorem SlR.one {w : World} {r : List Int} {v : Value} (h : SlR w r v) : v.oneCell' = true := by obtain ⟨a, c, rfl, _⟩ := h; rfl
theorem SlR.lst {w : World} {r : List Int} {v : Value} (h : SlR w r v) : ∃ a c, v = .slice a r.length c ∧ Lst w.heap.size w a c r := by obtain ⟨a, c, h1, h2, _⟩ := h; exact ⟨a, c, h1, h2⟩
/-- rows of rows of the call's own -/
def OwnR (base : Nat) (w : World) (v : Value) (rs : List (List Int)) : Prop := ∃ vals : List Value, w.ownsRow base 23 1 v rs.length vals ∧ ∀ j, j < rs.length → ∃ u, vals[j]? = some u ∧ SlR w (rat rs j) u
theorem gb_of_below {w w' : World} (e : Below w.heap.size w w') : w.grownBy w' none := ⟨e.os, e.tape, e.output, e.size, fun k hk _ => e.block k hk⟩
theorem OwnR.keep {base : Nat} {w w' : World} {v : Value} {rs : List (List Int)} (h : OwnR base w v rs) (e : Below w.heap.size w w') : OwnR base w' v rs := by
  obtain ⟨vals, h1, h2⟩ := h
  refine ⟨vals, h1.kept (gb_of_below e) ?_, fun j hj => ?_⟩
  · cases v.ownBlock with
    | none => exact .inl rfl
    | some k => exact .inr (by simp)
  · obtain ⟨u, h3, h4⟩ := h2 j hj
    exact ⟨u, h3, h4.keep e⟩
theorem OwnR.nil (base : Nat) (w : World) : OwnR base w (.slice none 0 0) [] := ⟨[], World.ownsRow_nil _ _ _ _, fun j hj => by simp at hj⟩
theorem OwnR.lst {base : Nat} {w : World} {v : Value} {rs : List (List Int)} (h : OwnR base w v rs) : ∃ a c, v = .slice a rs.length c ∧ LstR w.heap.size w a c rs := by
  obtain ⟨vals, h1, h2⟩ := h
  rcases h1.2 with ⟨rfl, h0⟩ | ⟨g, cap, cur, rfl, hb, hg, hn, hm, hs, ht⟩
  · exact ⟨none, 0, by rw [h0], fun k hk => by omega, by omega, fun _ => rfl⟩
  · refine ⟨some ⟨g, 0, none⟩, cap, rfl, fun k hk => ?_, hn, fun e => by cases e⟩
    obtain ⟨u, h3, h4⟩ := h2 k hk
    obtain ⟨a, c, rfl, hl⟩ := h4.lst
    refine ⟨g, 0, a, c, rfl, (Array.getElem?_eq_some_iff.1 hg).1, ?_, hl⟩
    rw [Nat.zero_add, h1.cellAt k (by omega), h3]
theorem OwnR.mono {base base' : Nat} {w : World} {v : Value} {rs : List (List Int)} (h : OwnR base w v rs) (e : base' ≤ base) : OwnR base' w v rs := by
  obtain ⟨vals, h1, h2⟩ := h
  exact ⟨vals, World.ownsRow.mono h1 e, h2⟩
theorem OwnR.len {base : Nat} {w : World} {v : Value} {rs : List (List Int)} (h : OwnR base w v rs) : lenV v = rs.length := by obtain ⟨a, c, rfl, _⟩ := h.lst; rfl
theorem OwnR.own {base : Nat} {w : World} {v : Value} {rs : List (List Int)} (h : OwnR base w v rs) : ∀ k, v.ownBlock = some k → base ≤ k ∧ k < w.heap.size ∧ ¬ NotRow w k := fun k hk => by
  obtain ⟨vals, h1, _⟩ := h
  refine ⟨(h1.lt k hk).1, (h1.lt k hk).2, ?_⟩
  rintro ⟨c, t, f, h3, h4⟩
  rcases h1.2 with ⟨rfl, _⟩ | ⟨g, cap, cur, rfl, hb, hg, _⟩
  · cases hk
  · cases hk
    rw [hg] at h3
    cases h3
    exact h4.1 rfl

end Go.Proofs.YtmmlphdekeflfaaGreatDoor

namespace Go.Proofs.YtmmlphdekeflfaaGreatDoor
open Go.RowKit

end Go.Proofs.YtmmlphdekeflfaaGreatDoor

namespace Go.Proofs.YtmmlphdekeflfaaGreatDoor
open Go.RowKit

attribute [local irreducible] wpStill

end Go.Proofs.YtmmlphdekeflfaaGreatDoor

namespace Go.Proofs.YtmmlphdekeflfaaGreatDoor
open Go.RowKit

/-- three cells -/
def tri (a b c : Value) : Nat → Value
  | 0 => a
  | 1 => b
  | _ => c
theorem tri_new (w : World) (t : TypeId) (a b c : Value) : (w.alloc (.cells #[a, b, c] t)).rowIs w.heap.size t 3 (tri a b c) :=
  ⟨#[a, b, c], heap_alloc_new w _, rfl, fun i hi => by
    have : i = 0 ∨ i = 1 ∨ i = 2 := by omega
    rcases this with rfl | rfl | rfl <;> rfl⟩
theorem tri_arr {W : World} {g : Nat} {t : TypeId} {a b c : Value} (h : W.rowIs g t 3 (tri a b c)) : W.heap[g]? = some (.cells #[a, b, c] t (0, 0)) := by
  obtain ⟨cs, h1, h2, h4⟩ := h
  rw [h1]
  have e : cs = #[a, b, c] := by
    apply Array.ext
    · simpa using h2
    · intro i hi hi2
      have h0 : i = 0 ∨ i = 1 ∨ i = 2 := by simp at hi2; omega
      have h5 := h4 i (by omega)
      rw [Array.getElem?_eq_getElem hi] at h5
      have h6 := Option.some.inj h5
      rw [h6]
      rcases h0 with rfl | rfl | rfl <;> rfl
  rw [e]
/-- a list's elements -/
def elr (q : Nat) (r : List Int) : List Int := ls (fun j => zat r j % (q : Int)) r.length
/-- an Opening alone has turned -/
theorem ne_O {w : World} {O b : Nat} (hO : ∃ c f, w.heap[O]? = some (.cells c 49 f)) (hb : NotRow w b) : b ≠ O := by
  rintro rfl
  obtain ⟨c, f, h1⟩ := hO
  obtain ⟨c', t, f', h2, h3⟩ := hb
  rw [h1] at h2
  cases h2
  exact h3.2.1 rfl
end Go.Proofs.YtmmlphdekeflfaaGreatDoor

namespace Go.Proofs.YtmmlphdekeflfaaGreatDoor
open Go.RowKit

/-- where a place stands -/
def fx (ps : List Int) (x : Int) : Nat := ((List.range ps.length).find? (fun i => zat ps i == x)).getD 0
/-- the digest of cnt rows, of what is shown: what it is, how many nodes are taken, whether one lacked -/
def upf (q n : Nat) (ps : List Int) (rows nodes : List (List Int)) : Nat → Int → Nat → Nat → Bool → List Int × Nat × Bool
  | 0, _, _, t, bad => ([], t, bad)
  | k + 1, first, cnt, t, bad =>
    if smb ps first (first + (cnt : Int)) = false then (if nodes.length ≤ t ∨ (rat nodes t).length ≠ 4 then ([0, 0, 0, 0], t, true) else (elr q (rat nodes t), t + 1, bad))
    else if cnt = 1 then (digl q n (0 :: rat rows (fx ps first)), t, bad)
    else
      (digl q n (1 :: ((upf q n ps rows nodes k first (lft cnt) t bad).1 ++ (upf q n ps rows nodes k (first + ((lft cnt : Nat) : Int)) (cnt - lft cnt) (upf q n ps rows nodes k first (lft cnt) t bad).2.1 (upf q n ps rows nodes k first (lft cnt) t bad).2.2).1)),
        (upf q n ps rows nodes k (first + ((lft cnt : Nat) : Int)) (cnt - lft cnt) (upf q n ps rows nodes k first (lft cnt) t bad).2.1 (upf q n ps rows nodes k first (lft cnt) t bad).2.2).2)
theorem elr_fits {q : Nat} (h3 : 3 ≤ q) (h4 : q ≤ 2147483647) (r : List Int) : Fits (elr q r) := fun j hj => by
  unfold elr at *
  rw [ls_len] at hj
  rw [ls_at _ _ _ hj]
  have := emod_bounds (zat r j) q h3
  omega
theorem LstD.gb {w w' : World} {g N C : Nat} {l : List Int} (h : LstD w g N l) (e : w.grownBy w' (some C)) (hne : g ≠ C) : LstD w' g N l := by
  obtain ⟨h1, c, f, h2⟩ := h
  have hg : g < w.heap.size := (Array.getElem?_eq_some_iff.1 h2).1
  have hb := gb_blk e hg hne
  refine ⟨⟨fun k hk => ?_, h1.room, h1.nil⟩, c, f, hb.trans h2⟩
  obtain ⟨b, o, e1, e2, e3⟩ := h1.row k hk
  cases e1
  exact ⟨g, 0, rfl, Nat.lt_of_lt_of_le hg e.size, (World.cell?_of_block (w := w) (a := ⟨g, 0 + k, none⟩) hb).trans e3⟩

end Go.Proofs.YtmmlphdekeflfaaGreatDoor

namespace Go.Proofs.YtmmlphdekeflfaaGreatDoor
open Go.RowKit

attribute [local irreducible] wpStill

end Go.Proofs.YtmmlphdekeflfaaGreatDoor

namespace Go.Proofs.YtmmlphdekeflfaaGreatDoor
open Go.RowKit

attribute [local irreducible] wpStill

end Go.Proofs.YtmmlphdekeflfaaGreatDoor

namespace Go.Proofs.YtmmlphdekeflfaaGreatDoor
open Go.RowKit

attribute [local irreducible] wpStill

end Go.Proofs.YtmmlphdekeflfaaGreatDoor

namespace Go.Proofs.YtmmlphdekeflfaaGreatDoor
open Go.RowKit

attribute [local irreducible] wpStill

end Go.Proofs.YtmmlphdekeflfaaGreatDoor

namespace Go.Proofs.YtmmlphdekeflfaaGreatDoor
open Go.RowKit

attribute [local irreducible] wpStill

end Go.Proofs.YtmmlphdekeflfaaGreatDoor

namespace Go.Proofs.YtmmlphdekeflfaaGreatDoor
open Go.RowKit

/-- places ascending below N -/
def AscN (N : Int) (ps : List Int) : Prop := ∀ j, j < ps.length → 0 ≤ zat ps j ∧ zat ps j < N ∧ (0 < j → zat ps (j - 1) < zat ps j)
instance (N : Int) (ps : List Int) : Decidable (AscN N ps) := by unfold AscN; infer_instance

/-- what Check answers -/
def chkf (q n : Nat) (root : List Int) (N : Int) (ps : List Int) (rows nodes : List (List Int)) : Bool :=
  decide (1 ≤ N ∧ N ≤ 65536 ∧ rows.length = ps.length ∧ root.length = 4 ∧ AscN N ps) &&
    (samb q (upf q n ps rows nodes N.toNat 0 N.toNat 0 false).1 root && !(upf q n ps rows nodes N.toNat 0 N.toNat 0 false).2.2 && (upf q n ps rows nodes N.toNat 0 N.toNat 0 false).2.1 == nodes.length)
theorem chkf_no {q n : Nat} {root : List Int} {N : Int} {ps : List Int} {rows nodes : List (List Int)} (h : ¬ (1 ≤ N ∧ N ≤ 65536 ∧ rows.length = ps.length ∧ root.length = 4 ∧ AscN N ps)) : chkf q n root N ps rows nodes = false := by
  unfold chkf
  rw [decide_eq_false h]
  rfl
theorem chkf_yes {q n : Nat} {root : List Int} {N : Int} {ps : List Int} {rows nodes : List (List Int)} (h : 1 ≤ N ∧ N ≤ 65536 ∧ rows.length = ps.length ∧ root.length = 4 ∧ AscN N ps) : chkf q n root N ps rows nodes = (samb q (upf q n ps rows nodes N.toNat 0 N.toNat 0 false).1 root && !(upf q n ps rows nodes N.toNat 0 N.toNat 0 false).2.2 && (upf q n ps rows nodes N.toNat 0 N.toNat 0 false).2.1 == nodes.length) := by
  unfold chkf
  rw [decide_eq_true h]
  rfl

attribute [local irreducible] wpStill

end Go.Proofs.YtmmlphdekeflfaaGreatDoor

namespace Go.Proofs.YtmmlphdekeflfaaGreatDoor
open Go.RowKit

theorem digl_congr {q n : Nat} {l l' : List Int} (hl : l.length = l'.length) (h : ∀ j, j < l.length → zat l j % (q : Int) = zat l' j % (q : Int)) : digl q n l = digl q n l' := by
  have e : pdf q (zat l) l.length = pdf q (zat l') l'.length := by
    funext j
    unfold pdf
    rw [← hl]
    split
    · rename_i hj
      exact h j hj
    · rfl
  unfold digl
  rw [e, hl]
theorem ls_cong {f g : Nat → Int} {n : Nat} (h : ∀ j, j < n → f j = g j) : ls f n = ls g n := by
  unfold ls
  exact List.map_congr_left (fun j hj => h j (List.mem_range.1 hj))
theorem elr_digl {q : Nat} (h3 : 3 ≤ q) (n : Nat) (l : List Int) : elr q (digl q n l) = digl q n l := by
  unfold elr
  rw [digl_len]
  unfold digl
  refine ls_cong fun j hj => ?_
  rw [ls_at _ _ _ hj]
  have := hst_bounds q n (pdf q (zat l) l.length) (l.length / 4 + 1) j h3
  exact Int.emod_eq_of_lt this.1 this.2
theorem fx_spec {ps : List Int} {x : Int} (h : ∃ j, j < ps.length ∧ zat ps j = x) : fx ps x < ps.length ∧ zat ps (fx ps x) = x := by
  obtain ⟨j, h1, h2⟩ := h
  unfold fx
  cases e : (List.range ps.length).find? (fun i => zat ps i == x) with
  | none =>
    have := List.find?_eq_none.1 e j (List.mem_range.2 h1)
    simp [h2] at this
  | some i =>
    have h3 := List.find?_some e
    have h4 := List.mem_range.1 (List.mem_of_find?_eq_some e)
    exact ⟨h4, by simpa using h3⟩

/-! ## alike as elements -/
theorem samb_iff {q : Nat} {xs ys : List Int} : samb q xs ys = true ↔ xs.map (· % (q : Int)) = ys.map (· % (q : Int)) := by
  unfold samb
  rw [decide_eq_true_eq]
theorem elr_map (q : Nat) (r : List Int) : elr q r = r.map (· % (q : Int)) := by
  apply List.ext_getElem?
  intro i
  unfold elr ls
  rw [List.getElem?_map, List.getElem?_map]
  by_cases h : i < r.length
  · rw [List.getElem?_range h, List.getElem?_eq_getElem h]
    simp [zat, h]
  · rw [List.getElem?_eq_none (by simp; omega), List.getElem?_eq_none (by omega)]
    rfl
theorem upf_red {q : Nat} (h3 : 3 ≤ q) (n : Nat) (ps : List Int) (rows nodes : List (List Int)) (k : Nat) (first : Int) (cnt t : Nat) (bad : Bool) : elr q (upf q n ps rows nodes k first cnt t bad).1 = (upf q n ps rows nodes k first cnt t bad).1 := by
  cases k with
  | zero => rfl
  | succ k =>
    simp only [upf]
    split
    · split
      · rw [elr_map]; simp
      · rw [elr_map, elr_map, List.map_map]
        exact List.map_congr_left fun x _ => Int.emod_emod_of_dvd _ (Int.dvd_refl _)
    · split <;> exact elr_digl h3 _ _
end Go.Proofs.YtmmlphdekeflfaaGreatDoor
