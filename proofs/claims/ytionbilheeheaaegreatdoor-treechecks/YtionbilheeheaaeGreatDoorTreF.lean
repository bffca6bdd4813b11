/- attestref3, the trees: Climb's Up. -/
import Derived.Test.YtionbilheeheaaeGreatDoorTreE
import Derived.Test.YtionbilheeheaaeGreatDoorSpgH
import Derived.StillTailTactics
namespace Go.Proofs.YtionbilheeheaaeGreatDoor
open Go.RowKit

/-- six cells -/
def six (a b c d e f : Value) : Nat → Value
  | 0 => a
  | 1 => b
  | 2 => c
  | 3 => d
  | 4 => e
  | _ => f
theorem six_set4 {W : World} {g : Nat} {t : TypeId} {a b c d e f : Value} (h : W.rowIs g t 6 (six a b c d e f)) (x : Value) : (W.setCell ⟨g, 4, none⟩ x).rowIs g t 6 (six a b c d x f) :=
  (h.set 4 x).congr (fun i hi => by
    have : i = 0 ∨ i = 1 ∨ i = 2 ∨ i = 3 ∨ i = 4 ∨ i = 5 := by omega
    rcases this with rfl | rfl | rfl | rfl | rfl | rfl <;> simp [six])
theorem six_set5 {W : World} {g : Nat} {t : TypeId} {a b c d e f : Value} (h : W.rowIs g t 6 (six a b c d e f)) (x : Value) : (W.setCell ⟨g, 5, none⟩ x).rowIs g t 6 (six a b c d e x) :=
  (h.set 5 x).congr (fun i hi => by
    have : i = 0 ∨ i = 1 ∨ i = 2 ∨ i = 3 ∨ i = 4 ∨ i = 5 := by omega
    rcases this with rfl | rfl | rfl | rfl | rfl | rfl <;> simp [six])

/-- where a place stands -/
def fx (ps : List Int) (x : Int) : Nat := ((List.range ps.length).find? (fun i => zat ps i == x)).getD 0
theorem fx_eq {ps : List Int} {x : Int} {i : Nat} (hi : i < ps.length) (h : zat ps i = x) (hn : ∀ j, j < i → zat ps j ≠ x) : fx ps x = i := by
  unfold fx
  rw [(List.find?_range_eq_some (i := i)).2 ⟨by simp [h], List.mem_range.2 hi, fun j hj => by simp [hn j hj]⟩]
  rfl

/-- the digest of cnt rows, of what is shown: what it is, how many nodes are taken, whether one lacked -/
def upf (q n : Nat) (ps : List Int) (rows nodes : List (List Int)) : Nat → Int → Nat → Nat → Bool → List Int × Nat × Bool
  | 0, _, _, t, bad => ([], t, bad)
  | k + 1, first, cnt, t, bad =>
    if smb ps first (first + (cnt : Int)) = false then (if nodes.length ≤ t ∨ (rat nodes t).length ≠ 4 then ([0, 0, 0, 0], t, true) else (elr q (rat nodes t), t + 1, bad))
    else if cnt = 1 then (digl q n (0 :: rat rows (fx ps first)), t, bad)
    else
      (digl q n (1 :: ((upf q n ps rows nodes k first (lft cnt) t bad).1 ++ (upf q n ps rows nodes k (first + ((lft cnt : Nat) : Int)) (cnt - lft cnt) (upf q n ps rows nodes k first (lft cnt) t bad).2.1 (upf q n ps rows nodes k first (lft cnt) t bad).2.2).1)),
        (upf q n ps rows nodes k (first + ((lft cnt : Nat) : Int)) (cnt - lft cnt) (upf q n ps rows nodes k first (lft cnt) t bad).2.1 (upf q n ps rows nodes k first (lft cnt) t bad).2.2).2)
theorem upf_len (q n : Nat) (ps : List Int) (rows nodes : List (List Int)) (k : Nat) (first : Int) (cnt t : Nat) (bad : Bool) (hk : 1 ≤ k) : (upf q n ps rows nodes k first cnt t bad).1.length = 4 := by
  cases k with
  | zero => omega
  | succ k =>
    simp only [upf]
    split
    · split
      · rfl
      · rename_i h
        show (elr q (rat nodes t)).length = 4
        unfold elr
        rw [ls_len]
        exact Classical.byContradiction fun e => h (.inr e)
    · split
      · exact digl_len _ _ _
      · exact digl_len _ _ _
theorem elr_fits {q : Nat} (h3 : 3 ≤ q) (h4 : q ≤ 2147483647) (r : List Int) : Fits (elr q r) := fun j hj => by
  unfold elr at *
  rw [ls_len] at hj
  rw [ls_at _ _ _ hj]
  have := emod_bounds (zat r j) q h3
  omega
theorem upf_fits {q : Nat} (h3 : 3 ≤ q) (h4 : q ≤ 2147483647) (n : Nat) (ps : List Int) (rows nodes : List (List Int)) (k : Nat) (first : Int) (cnt t : Nat) (bad : Bool) : Fits (upf q n ps rows nodes k first cnt t bad).1 := by
  cases k with
  | zero => intro j hj; simp [upf] at hj
  | succ k =>
    simp only [upf]
    split
    · split
      · intro j hj
        have : j = 0 ∨ j = 1 ∨ j = 2 ∨ j = 3 := by simp at hj; omega
        rcases this with rfl | rfl | rfl | rfl <;> simp [zat]
      · exact elr_fits h3 h4 _
    · split
      · exact digl_fits h3 h4 _ _
      · exact digl_fits h3 h4 _ _

/-- what Up answers -/
def UpD (C : Nat) (q : Nat) (vp vr vn : Value) (w : World) (r : List Int × Nat × Bool) (e : Ending) (w' : World) : Prop :=
  ∃ (g N : Nat), e = .returned (.slice (some ⟨g, 0, none⟩) 4 N) ∧ w.heap.size ≤ g ∧ LstD w' g N r.1 ∧ w'.rowIs C 81 6 (six (.int .i64 q) vp vr vn (.int .i64 r.2.1) (.bool r.2.2)) ∧ w.grownBy w' (some C)

theorem LstD.gb {w w' : World} {g N C : Nat} {l : List Int} (h : LstD w g N l) (e : w.grownBy w' (some C)) (hne : g ≠ C) : LstD w' g N l := by
  obtain ⟨h1, c, f, h2⟩ := h
  have hg : g < w.heap.size := (Array.getElem?_eq_some_iff.1 h2).1
  have hb := gb_blk e hg hne
  refine ⟨⟨fun k hk => ?_, h1.room, h1.nil⟩, c, f, hb.trans h2⟩
  obtain ⟨b, o, e1, e2, e3⟩ := h1.row k hk
  cases e1
  exact ⟨g, 0, rfl, Nat.lt_of_lt_of_le hg e.size, (World.cell?_of_block (w := w) (a := ⟨g, 0 + k, none⟩) hb).trans e3⟩

theorem upf_t (q n : Nat) (ps : List Int) (rows nodes : List (List Int)) (T : Nat) (hT : nodes.length ≤ T) : ∀ (k : Nat) (first : Int) (cnt t : Nat) (bad : Bool), t ≤ T → (upf q n ps rows nodes k first cnt t bad).2.1 ≤ T
  | 0, _, _, t, _, h => by simpa [upf] using h
  | k + 1, first, cnt, t, bad, h => by
    simp only [upf]
    split
    · split
      · exact h
      · rename_i h2
        show t + 1 ≤ T
        have : ¬ nodes.length ≤ t := fun e => h2 (.inl e)
        omega
    · split
      · exact h
      · exact upf_t q n ps rows nodes T hT k _ _ _ _ (upf_t q n ps rows nodes T hT k _ _ _ _ h)

theorem zero_dig (W : World) : LstD (W.alloc (.cells #[.int .i64 0, .int .i64 0, .int .i64 0, .int .i64 0] 3)).drew W.heap.size 4 [0, 0, 0, 0] := by
  refine ⟨⟨fun j hj => ?_, by simp, fun e => by cases e⟩, _, _, heap_alloc_new W _⟩
  refine ⟨W.heap.size, 0, rfl, by show W.heap.size < (W.alloc _).heap.size; simp, ?_⟩
  show (W.alloc (.cells #[.int .i64 0, .int .i64 0, .int .i64 0, .int .i64 0] 3)).cell? _ = _
  have : j = 0 ∨ j = 1 ∨ j = 2 ∨ j = 3 := by simp at hj; omega
  rcases this with rfl | rfl | rfl | rfl <;> simp [zat]
theorem below_of_gb {C n0 : Nat} {w w' : World} (h : w.grownBy w' (some C)) (hn : n0 ≤ C) (hC : C < w.heap.size) : Below n0 w w' := ⟨h.os, h.tape, h.output, h.size, fun k hk => gb_blk h (by omega) (by omega)⟩

end Go.Proofs.YtionbilheeheaaeGreatDoor
