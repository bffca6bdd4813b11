/- attestref6.Do. attestref6.Do: op 1 -/
import Derived.Test.YtaibngnabhmabakDoorBaAB
namespace Go.Proofs.YtaibngnabhmabakDoor
open Go.RowKit

theorem fourM0 {W : World} {g : Nat} {a b c d : Value} {t : TypeId} (h : W.heap[g]? = some (.cells #[a, b, c, d] t (0, 0))) : W.cell? ⟨g, 0, none⟩ = some a := by simp [World.cell?, h]
theorem fourM1 {W : World} {g : Nat} {a b c d : Value} {t : TypeId} (h : W.heap[g]? = some (.cells #[a, b, c, d] t (0, 0))) : W.cell? ⟨g, 1, none⟩ = some b := by simp [World.cell?, h]
theorem fourM2 {W : World} {g : Nat} {a b c d : Value} {t : TypeId} (h : W.heap[g]? = some (.cells #[a, b, c, d] t (0, 0))) : W.cell? ⟨g, 2, none⟩ = some c := by simp [World.cell?, h]
theorem fourM3 {W : World} {g : Nat} {a b c d : Value} {t : TypeId} (h : W.heap[g]? = some (.cells #[a, b, c, d] t (0, 0))) : W.cell? ⟨g, 3, none⟩ = some d := by simp [World.cell?, h]
theorem belM (w : World) (n : Nat) : Below w.heap.size w (w.drewN n) := ⟨rfl, rfl, rfl, Nat.le_refl _, fun _ _ => rfl⟩
theorem row_newM (w : World) (cs : Array Value) (t : TypeId) (n : Nat) (f : Nat → Value) (hn : cs.size = n) (hf : ∀ i, i < n → cs[i]? = some (f i)) : (w.alloc (.cells cs t)).rowIs w.heap.size t n f :=
  ⟨cs, heap_alloc_new w _, hn, hf⟩
/-- what a step makes of the machine -/
def RM.three (p : Nat) (s : RM) (op A B C : Int) : RM :=
  let l1 := s.look A
  let l2 := l1.1.look B
  (l2.1.rck op l2.2).tell p C (rkn p op l1.2 l2.2)
def RM.step (p : Nat) (s : RM) (op a b c : Int) : RM × Rg :=
  let A := (s.fp + a) % (p : Int)
  let B := (s.fp + b) % (p : Int)
  let C := (s.fp + c) % (p : Int)
  let n : Rg := ⟨(s.pc + 1) % (p : Int), s.fp, s.ap, s.rv⟩
  if op = 1 ∨ op = 2 ∨ op = 3 ∨ op = 4 ∨ op = 6 then (s.three p op A B C, n)
  else if op = 5 then (s.tell p A b, n)
  else if op = 7 then (((s.look A).1.look B).1.must ((s.look A).2 == ((s.look A).1.look B).2), n)
  else if op = 8 then (s, { n with pc := a % (p : Int) })
  else if op = 9 then ((s.look A).1, if (s.look A).2 = 0 then { n with pc := b % (p : Int) } else n)
  else if op = 10 then ((s.tell p s.ap s.fp).tell p ((s.ap + 1) % (p : Int)) (s.pc + 1), ⟨a % (p : Int), (s.ap + 2) % (p : Int), ((s.ap + 2) % (p : Int) + b) % (p : Int), s.rv⟩)
  else if op = 11 then
    let l1 := s.look ((s.fp - 2) % (p : Int))
    let l2 := l1.1.look ((s.fp - 1) % (p : Int))
    let l3 := l2.1.look A
    (l3.1, ⟨l2.2, l1.2, s.ap, l3.2⟩)
  else if op = 12 then (s.tell p A s.rv, n)
  else if op = 13 then ((s.look A).1.tell p (((s.ap + 2) % (p : Int) + b) % (p : Int)) (s.look A).2, n)
  else if op = 0 then ((s.look A).1, n)
  else ({ s with err := 7 }, n)
def put10 (W : World) (g : Nat) (f : Nat → Value) : World := (((((((((W.setCell ⟨g, 0, none⟩ (f 0)).setCell ⟨g, 1, none⟩ (f 1)).setCell ⟨g, 2, none⟩ (f 2)).setCell ⟨g, 3, none⟩ (f 3)).setCell ⟨g, 4, none⟩ (f 4)).setCell ⟨g, 5, none⟩ (f 5)).setCell ⟨g, 6, none⟩ (f 6)).setCell ⟨g, 7, none⟩ (f 7)).setCell ⟨g, 8, none⟩ (f 8)).setCell ⟨g, 9, none⟩ (f 9)
theorem put10_oth (W : World) (g : Nat) (f : Nat → Value) (k : Nat) (h : k ≠ g) : (put10 W g f).heap[k]? = W.heap[k]? := by
  unfold put10
  rw [Below.heap_setCell _ _ _ _ h, Below.heap_setCell _ _ _ _ h, Below.heap_setCell _ _ _ _ h, Below.heap_setCell _ _ _ _ h, Below.heap_setCell _ _ _ _ h, Below.heap_setCell _ _ _ _ h, Below.heap_setCell _ _ _ _ h, Below.heap_setCell _ _ _ _ h, Below.heap_setCell _ _ _ _ h, Below.heap_setCell _ _ _ _ h]
theorem put10_row {W : World} {g : Nat} {t : TypeId} {z : Nat → Value} (h : W.rowIs g t 10 z) (f : Nat → Value) : (put10 W g f).rowIs g t 10 f :=
  ((((((((((h.set 0 (f 0)).set 1 (f 1)).set 2 (f 2)).set 3 (f 3)).set 4 (f 4)).set 5 (f 5)).set 6 (f 6)).set 7 (f 7)).set 8 (f 8)).set 9 (f 9)).congr (fun i hi => by
    rcases ten hi with rfl | rfl | rfl | rfl | rfl | rfl | rfl | rfl | rfl | rfl <;> simp)
theorem row10_arr {W : World} {g : Nat} {t : TypeId} {f : Nat → Value} (h : W.rowIs g t 10 f) : W.heap[g]? = some (.cells #[f 0, f 1, f 2, f 3, f 4, f 5, f 6, f 7, f 8, f 9] t (0, 0)) := by
  obtain ⟨cs, hb, hn, hf⟩ := h
  rw [hb]
  congr 2
  refine Array.ext (by simpa using hn) (fun i h1 h2 => ?_)
  have hi : i < 10 := by simpa [hn] using h1
  have := hf i hi
  rw [Array.getElem?_eq_getElem h1] at this
  injection this with this
  rw [this]
  rcases ten hi with rfl | rfl | rfl | rfl | rfl | rfl | rfl | rfl | rfl | rfl <;> rfl
/-- what is known of a machine on the way -/
def SOk (p n k : Nat) (s : RM) : Prop := (∀ j, j < s.cs.length → 0 ≤ (cat s.cs j).2 ∧ (cat s.cs j).2 < p) ∧ s.cs.length ≤ n ∧ (s.err = 0 → s.slot ≤ k)
theorem look_ok {p n k : Nat} {s : RM} (hp : 3 ≤ p) (h : SOk p n k s) (x : Int) : SOk p n (k + 1) (s.look x).1 ∧ 0 ≤ (s.look x).2 ∧ (s.look x).2 < p := by
  unfold RM.look
  split
  · rename_i h1
    exact ⟨⟨h.1, h.2.1, fun e => absurd e h1⟩, by omega, by show (0 : Int) < p; omega⟩
  · rename_i h1
    split
    · exact ⟨⟨h.1, h.2.1, fun e => absurd (show (10 : Int) = 0 from e) (by decide)⟩, by omega, by show (0 : Int) < p; omega⟩
    · rename_i h2
      rcases finz_cases s.cs x with hm | ⟨i, hi, hil, _⟩
      · rw [hm] at h2; exact absurd (by decide) h2
      · have hb := h.1 i hil
        rw [hi, Int.toNat_natCast]
        refine ⟨⟨h.1, h.2.1, fun e => ?_⟩, hb⟩
        have := h.2.2 e
        show s.slot + 1 ≤ k + 1
        omega
theorem must_ok {p n k : Nat} {s : RM} (h : SOk p n k s) (b : Bool) : SOk p n k (s.must b) := by
  unfold RM.must
  split
  · exact ⟨h.1, h.2.1, fun e => absurd (show (7 : Int) = 0 from e) (by decide)⟩
  · exact h
theorem rck_ok {p n k : Nat} {s : RM} (h : SOk p n k s) (op y : Int) : SOk p n k (s.rck op y) := by
  unfold RM.rck
  split
  · exact must_ok h _
  · exact h
theorem cat_app {cs : List (Int × Int)} {d : Int × Int} {j : Nat} (h : j < cs.length) : cat (cs ++ [d]) j = cat cs j := by simp [cat, List.getElem?_append_left h]
theorem cat_last (cs : List (Int × Int)) (d : Int × Int) : cat (cs ++ [d]) cs.length = d := by simp [cat]
theorem tell_ok {p n k : Nat} {s : RM} (hp : 3 ≤ p) (h : SOk p n k s) (x y : Int) : SOk p (n + 1) (k + 1) (s.tell p x y) := by
  unfold RM.tell
  split
  · rename_i h1
    exact ⟨h.1, by have := h.2.1; omega, fun e => absurd e h1⟩
  · rename_i h1
    split
    · exact ⟨h.1, by have := h.2.1; show s.cs.length ≤ n + 1; omega, fun e => absurd (show (7 : Int) = 0 from e) (by decide)⟩
    · split
      · refine ⟨fun j hj => ?_, ?_, fun e => ?_⟩
        · change j < (s.cs ++ [(x, y % (p : Int))]).length at hj
          show 0 ≤ (cat (s.cs ++ [(x, y % (p : Int))]) j).2 ∧ (cat (s.cs ++ [(x, y % (p : Int))]) j).2 < p
          by_cases hjl : j < s.cs.length
          · rw [cat_app hjl]; exact h.1 j hjl
          · obtain rfl : j = s.cs.length := by simp at hj; omega
            rw [cat_last]
            exact emod_bounds y p hp
        · show (s.cs ++ [(x, y % (p : Int))]).length ≤ n + 1
          have := h.2.1
          simp
          omega
        · have := h.2.2 e
          show s.slot + 1 ≤ k + 1
          omega
      · refine ⟨h.1, by have := h.2.1; show s.cs.length ≤ n + 1; omega, fun e => ?_⟩
        have := h.2.2 e
        show s.slot + 1 ≤ k + 1
        omega
theorem rkn_bounds {p : Nat} (hp : 3 ≤ p) (op x y : Int) : 0 ≤ rkn p op x y ∧ rkn p op x y < p := by
  unfold rkn
  split
  · exact emod_bounds _ p hp
  · split
    · exact emod_bounds _ p hp
    · split
      · exact emod_bounds _ p hp
      · split
        · exact emod_bounds _ p hp
        · split
          · omega
          · omega

end Go.Proofs.YtaibngnabhmabakDoor

namespace Go.Proofs.YtaibngnabhmabakDoor
open Go.RowKit

end Go.Proofs.YtaibngnabhmabakDoor
