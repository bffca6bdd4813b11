/- attestref6: the cells that are told, and the machine's own words. attestref6: shown, look, tell, must. attestref6: look, tell, must. attestref6: tell, reckoned. attestref6.Do: what stands. attestref6.Do. -/
import Derived.Test.YtdpdmgmeieijaaaGreatDoorFld
import Derived.StillTailTactics
namespace Go.Proofs.YtdpdmgmeieijaaaGreatDoor
open Go.RowKit

/-- cells, as they lie in memory -/
def celv : List (Int × Int) → List Value
  | [] => []
  | c :: r => .int .i64 c.1 :: .int .i64 c.2 :: celv r
def cat (cs : List (Int × Int)) (j : Nat) : Int × Int := cs.getD j (0, 0)
theorem celv_len : ∀ cs, (celv cs).length = cs.length * 2
  | [] => rfl
  | c :: r => by simp [celv, celv_len r]; omega
theorem celv_app : ∀ cs ds, celv (cs ++ ds) = celv cs ++ celv ds
  | [], ds => rfl
  | c :: r, ds => by simp [celv, celv_app r ds]
theorem celv_at : ∀ (cs : List (Int × Int)) (j : Nat), j < cs.length → (celv cs)[j * 2]? = some (.int .i64 (cat cs j).1) ∧ (celv cs)[j * 2 + 1]? = some (.int .i64 (cat cs j).2)
  | [], _, h => absurd h (Nat.not_lt_zero _)
  | c :: r, 0, _ => ⟨rfl, rfl⟩
  | c :: r, j + 1, h => by
    have ih := celv_at r j (by simpa using h)
    have e1 : (j + 1) * 2 = j * 2 + 2 := by omega
    rw [e1]
    exact ih
/-- the place of a cell; -1: there is none -/
def finz (cs : List (Int × Int)) (x : Int) : Int := match cs.findIdx? (fun c => c.1 == x) with
  | some i => i
  | none => -1
/-- cells of the call's own -/
def CelR (base : Nat) (w : World) (v : Value) (cs : List (Int × Int)) : Prop := w.ownsRow base 58 2 v cs.length (celv cs)
theorem CelR.form {base : Nat} {w : World} {v : Value} {cs : List (Int × Int)} (h : CelR base w v cs) : ∃ a c, v = .slice a cs.length c := by
  obtain ⟨_, h2⟩ := h
  rcases h2 with ⟨rfl, h0⟩ | ⟨g, cap, cur, rfl, _⟩
  · exact ⟨none, 0, by rw [h0]⟩
  · exact ⟨_, _, rfl⟩
theorem CelR.at {base : Nat} {w : World} {v : Value} {cs : List (Int × Int)} (h : CelR base w v cs) {j : Nat} (hj : j < cs.length) : ∃ g cap, v = .slice (some ⟨g, 0, none⟩) cs.length cap ∧ base ≤ g ∧ w.cell? ⟨g, j * 2, none⟩ = some (.int .i64 (cat cs j).1) ∧ w.cell? ⟨g, j * 2 + 1, none⟩ = some (.int .i64 (cat cs j).2) := by
  have h' := h
  obtain ⟨_, h2⟩ := h
  rcases h2 with ⟨rfl, h0⟩ | ⟨g, cap, cur, rfl, hb, hg, hn, hm, hs, ht⟩
  · omega
  · have hc : ∀ j u, (celv cs)[j]? = some u → w.cell? ⟨g, j, none⟩ = some u := fun j u hu => by
      have := World.ownsRow.cells h' (g := g) rfl j u hu
      have hadd : (⟨g, 0, none⟩ : Addr).add j = ⟨g, 0 + j, none⟩ := by unfold Addr.add; split <;> simp_all
      rw [hadd, Nat.zero_add] at this
      exact this
    exact ⟨g, cap, rfl, hb, hc _ _ (celv_at cs j hj).1, hc _ _ (celv_at cs j hj).2⟩

/-- the reference's machine -/
structure RM where
  cs : List (Int × Int)
  pc : Int
  fp : Int
  ap : Int
  rv : Int
  at' : Nat → Int
  is' : Nat → Int
  slot : Nat
  err : Int
end Go.Proofs.YtdpdmgmeieijaaaGreatDoor

namespace Go.Proofs.YtdpdmgmeieijaaaGreatDoor
open Go.RowKit

def updM (f : Nat → Int) (i : Nat) (x : Int) : Nat → Int := fun j => if j = i then x else f j
def RM.shown (s : RM) (x y : Int) : RM := { s with at' := updM s.at' s.slot x, is' := updM s.is' s.slot y, slot := s.slot + 1 }
theorem gbM {w w' : World} {M i : Nat} {v : Value} (h : w.grownBy w' (some M)) : w.grownBy (w'.setCell ⟨M, i, none⟩ v) (some M) :=
  ⟨h.os, h.tape, h.output, by have := h.size; simpa [World.setCell] using this, fun k hk hne => (Below.heap_setCell _ _ _ _ (by show k ≠ M; intro e; exact hne (by rw [e]))).trans (h.block k hk hne)⟩

theorem gb_same (w : World) (M : Nat) : w.grownBy w (some M) := ⟨rfl, rfl, rfl, Nat.le_refl _, fun _ _ _ => rfl⟩
end Go.Proofs.YtdpdmgmeieijaaaGreatDoor

namespace Go.Proofs.YtdpdmgmeieijaaaGreatDoor
open Go.RowKit

def RM.look (s : RM) (x : Int) : RM × Int := if s.err ≠ 0 then (s, 0) else if finz s.cs x < 0 then ({ s with err := 10 }, 0) else (s.shown x (cat s.cs (finz s.cs x).toNat).2, (cat s.cs (finz s.cs x).toNat).2)
def RM.must (s : RM) (b : Bool) : RM := if s.err = 0 ∧ b = false then { s with err := 7 } else s
def RM.tell (p : Nat) (s : RM) (x y : Int) : RM := if s.err ≠ 0 then s else if 0 ≤ finz s.cs x ∧ (cat s.cs (finz s.cs x).toNat).2 ≠ y % p then { s with err := 7 } else
  if finz s.cs x < 0 then ({ s with cs := s.cs ++ [(x, y % p)] } : RM).shown x (y % p) else s.shown x (y % p)
theorem finz_cases (cs : List (Int × Int)) (x : Int) : finz cs x = -1 ∨ ∃ i : Nat, finz cs x = i ∧ i < cs.length ∧ (cat cs i).1 = x := by
  unfold finz
  split
  · rename_i i h
    rw [List.findIdx?_eq_some_iff_getElem] at h
    obtain ⟨h1, h2, _⟩ := h
    exact .inr ⟨i, rfl, h1, by simpa [cat, h1] using h2⟩
  · exact .inl rfl

end Go.Proofs.YtdpdmgmeieijaaaGreatDoor

namespace Go.Proofs.YtdpdmgmeieijaaaGreatDoor
open Go.RowKit

/-- what comes of two by an operation, and what becomes of the machine -/
def rkn (p : Nat) (op x y : Int) : Int := if op = 1 then (x + y) % p else if op = 2 then (x - y) % p else if op = 3 then x * y % p else if op = 4 then x * (invn p y : Int) % p else if x = y then 1 else 0
def RM.rck (s : RM) (op y : Int) : RM := if op = 4 then s.must (y != 0) else s

end Go.Proofs.YtdpdmgmeieijaaaGreatDoor

namespace Go.Proofs.YtdpdmgmeieijaaaGreatDoor
open Go.RowKit

structure Rg where
  pc : Int
  fp : Int
  ap : Int
  rv : Int
theorem ten {i : Nat} (h : i < 10) : i = 0 ∨ i = 1 ∨ i = 2 ∨ i = 3 ∨ i = 4 ∨ i = 5 ∨ i = 6 ∨ i = 7 ∨ i = 8 ∨ i = 9 := by omega
end Go.Proofs.YtdpdmgmeieijaaaGreatDoor

namespace Go.Proofs.YtdpdmgmeieijaaaGreatDoor
open Go.RowKit

theorem fourM0 {W : World} {g : Nat} {a b c d : Value} {t : TypeId} (h : W.heap[g]? = some (.cells #[a, b, c, d] t (0, 0))) : W.cell? ⟨g, 0, none⟩ = some a := by simp [World.cell?, h]
theorem fourM1 {W : World} {g : Nat} {a b c d : Value} {t : TypeId} (h : W.heap[g]? = some (.cells #[a, b, c, d] t (0, 0))) : W.cell? ⟨g, 1, none⟩ = some b := by simp [World.cell?, h]
theorem fourM2 {W : World} {g : Nat} {a b c d : Value} {t : TypeId} (h : W.heap[g]? = some (.cells #[a, b, c, d] t (0, 0))) : W.cell? ⟨g, 2, none⟩ = some c := by simp [World.cell?, h]
theorem fourM3 {W : World} {g : Nat} {a b c d : Value} {t : TypeId} (h : W.heap[g]? = some (.cells #[a, b, c, d] t (0, 0))) : W.cell? ⟨g, 3, none⟩ = some d := by simp [World.cell?, h]
theorem belM (w : World) (n : Nat) : Below w.heap.size w (w.drewN n) := ⟨rfl, rfl, rfl, Nat.le_refl _, fun _ _ => rfl⟩
theorem row_newM (w : World) (cs : Array Value) (t : TypeId) (n : Nat) (f : Nat → Value) (hn : cs.size = n) (hf : ∀ i, i < n → cs[i]? = some (f i)) : (w.alloc (.cells cs t)).rowIs w.heap.size t n f :=
  ⟨cs, heap_alloc_new w _, hn, hf⟩
/-- what a step makes of the machine -/
def RM.three (p : Nat) (s : RM) (op A B C : Int) : RM :=
  let l1 := s.look A
  let l2 := l1.1.look B
  (l2.1.rck op l2.2).tell p C (rkn p op l1.2 l2.2)
def RM.step (p : Nat) (s : RM) (op a b c : Int) : RM × Rg :=
  let A := (s.fp + a) % (p : Int)
  let B := (s.fp + b) % (p : Int)
  let C := (s.fp + c) % (p : Int)
  let n : Rg := ⟨(s.pc + 1) % (p : Int), s.fp, s.ap, s.rv⟩
  if op = 1 ∨ op = 2 ∨ op = 3 ∨ op = 4 ∨ op = 6 then (s.three p op A B C, n)
  else if op = 5 then (s.tell p A b, n)
  else if op = 7 then (((s.look A).1.look B).1.must ((s.look A).2 == ((s.look A).1.look B).2), n)
  else if op = 8 then (s, { n with pc := a % (p : Int) })
  else if op = 9 then ((s.look A).1, if (s.look A).2 = 0 then { n with pc := b % (p : Int) } else n)
  else if op = 10 then ((s.tell p s.ap s.fp).tell p ((s.ap + 1) % (p : Int)) (s.pc + 1), ⟨a % (p : Int), (s.ap + 2) % (p : Int), ((s.ap + 2) % (p : Int) + b) % (p : Int), s.rv⟩)
  else if op = 11 then
    let l1 := s.look ((s.fp - 2) % (p : Int))
    let l2 := l1.1.look ((s.fp - 1) % (p : Int))
    let l3 := l2.1.look A
    (l3.1, ⟨l2.2, l1.2, s.ap, l3.2⟩)
  else if op = 12 then (s.tell p A s.rv, n)
  else if op = 13 then ((s.look A).1.tell p (((s.ap + 2) % (p : Int) + b) % (p : Int)) (s.look A).2, n)
  else if op = 0 then ((s.look A).1, n)
  else ({ s with err := 7 }, n)
def put10 (W : World) (g : Nat) (f : Nat → Value) : World := (((((((((W.setCell ⟨g, 0, none⟩ (f 0)).setCell ⟨g, 1, none⟩ (f 1)).setCell ⟨g, 2, none⟩ (f 2)).setCell ⟨g, 3, none⟩ (f 3)).setCell ⟨g, 4, none⟩ (f 4)).setCell ⟨g, 5, none⟩ (f 5)).setCell ⟨g, 6, none⟩ (f 6)).setCell ⟨g, 7, none⟩ (f 7)).setCell ⟨g, 8, none⟩ (f 8)).setCell ⟨g, 9, none⟩ (f 9)
theorem put10_oth (W : World) (g : Nat) (f : Nat → Value) (k : Nat) (h : k ≠ g) : (put10 W g f).heap[k]? = W.heap[k]? := by
  unfold put10
  rw [Below.heap_setCell _ _ _ _ h, Below.heap_setCell _ _ _ _ h, Below.heap_setCell _ _ _ _ h, Below.heap_setCell _ _ _ _ h, Below.heap_setCell _ _ _ _ h, Below.heap_setCell _ _ _ _ h, Below.heap_setCell _ _ _ _ h, Below.heap_setCell _ _ _ _ h, Below.heap_setCell _ _ _ _ h, Below.heap_setCell _ _ _ _ h]
theorem put10_row {W : World} {g : Nat} {t : TypeId} {z : Nat → Value} (h : W.rowIs g t 10 z) (f : Nat → Value) : (put10 W g f).rowIs g t 10 f :=
  ((((((((((h.set 0 (f 0)).set 1 (f 1)).set 2 (f 2)).set 3 (f 3)).set 4 (f 4)).set 5 (f 5)).set 6 (f 6)).set 7 (f 7)).set 8 (f 8)).set 9 (f 9)).congr (fun i hi => by
    rcases ten hi with rfl | rfl | rfl | rfl | rfl | rfl | rfl | rfl | rfl | rfl <;> simp)
theorem row10_arr {W : World} {g : Nat} {t : TypeId} {f : Nat → Value} (h : W.rowIs g t 10 f) : W.heap[g]? = some (.cells #[f 0, f 1, f 2, f 3, f 4, f 5, f 6, f 7, f 8, f 9] t (0, 0)) := by
  obtain ⟨cs, hb, hn, hf⟩ := h
  rw [hb]
  congr 2
  refine Array.ext (by simpa using hn) (fun i h1 h2 => ?_)
  have hi : i < 10 := by simpa [hn] using h1
  have := hf i hi
  rw [Array.getElem?_eq_getElem h1] at this
  injection this with this
  rw [this]
  rcases ten hi with rfl | rfl | rfl | rfl | rfl | rfl | rfl | rfl | rfl | rfl <;> rfl
/-- what is known of a machine on the way -/
def SOk (p n k : Nat) (s : RM) : Prop := (∀ j, j < s.cs.length → 0 ≤ (cat s.cs j).2 ∧ (cat s.cs j).2 < p) ∧ s.cs.length ≤ n ∧ (s.err = 0 → s.slot ≤ k)
theorem look_ok {p n k : Nat} {s : RM} (hp : 3 ≤ p) (h : SOk p n k s) (x : Int) : SOk p n (k + 1) (s.look x).1 ∧ 0 ≤ (s.look x).2 ∧ (s.look x).2 < p := by
  unfold RM.look
  split
  · rename_i h1
    exact ⟨⟨h.1, h.2.1, fun e => absurd e h1⟩, by omega, by show (0 : Int) < p; omega⟩
  · rename_i h1
    split
    · exact ⟨⟨h.1, h.2.1, fun e => absurd (show (10 : Int) = 0 from e) (by decide)⟩, by omega, by show (0 : Int) < p; omega⟩
    · rename_i h2
      rcases finz_cases s.cs x with hm | ⟨i, hi, hil, _⟩
      · rw [hm] at h2; exact absurd (by decide) h2
      · have hb := h.1 i hil
        rw [hi, Int.toNat_natCast]
        refine ⟨⟨h.1, h.2.1, fun e => ?_⟩, hb⟩
        have := h.2.2 e
        show s.slot + 1 ≤ k + 1
        omega
theorem must_ok {p n k : Nat} {s : RM} (h : SOk p n k s) (b : Bool) : SOk p n k (s.must b) := by
  unfold RM.must
  split
  · exact ⟨h.1, h.2.1, fun e => absurd (show (7 : Int) = 0 from e) (by decide)⟩
  · exact h
theorem rck_ok {p n k : Nat} {s : RM} (h : SOk p n k s) (op y : Int) : SOk p n k (s.rck op y) := by
  unfold RM.rck
  split
  · exact must_ok h _
  · exact h
theorem cat_app {cs : List (Int × Int)} {d : Int × Int} {j : Nat} (h : j < cs.length) : cat (cs ++ [d]) j = cat cs j := by simp [cat, List.getElem?_append_left h]
theorem cat_last (cs : List (Int × Int)) (d : Int × Int) : cat (cs ++ [d]) cs.length = d := by simp [cat]
theorem tell_ok {p n k : Nat} {s : RM} (hp : 3 ≤ p) (h : SOk p n k s) (x y : Int) : SOk p (n + 1) (k + 1) (s.tell p x y) := by
  unfold RM.tell
  split
  · rename_i h1
    exact ⟨h.1, by have := h.2.1; omega, fun e => absurd e h1⟩
  · rename_i h1
    split
    · exact ⟨h.1, by have := h.2.1; show s.cs.length ≤ n + 1; omega, fun e => absurd (show (7 : Int) = 0 from e) (by decide)⟩
    · split
      · refine ⟨fun j hj => ?_, ?_, fun e => ?_⟩
        · change j < (s.cs ++ [(x, y % (p : Int))]).length at hj
          show 0 ≤ (cat (s.cs ++ [(x, y % (p : Int))]) j).2 ∧ (cat (s.cs ++ [(x, y % (p : Int))]) j).2 < p
          by_cases hjl : j < s.cs.length
          · rw [cat_app hjl]; exact h.1 j hjl
          · obtain rfl : j = s.cs.length := by simp at hj; omega
            rw [cat_last]
            exact emod_bounds y p hp
        · show (s.cs ++ [(x, y % (p : Int))]).length ≤ n + 1
          have := h.2.1
          simp
          omega
        · have := h.2.2 e
          show s.slot + 1 ≤ k + 1
          omega
      · refine ⟨h.1, by have := h.2.1; show s.cs.length ≤ n + 1; omega, fun e => ?_⟩
        have := h.2.2 e
        show s.slot + 1 ≤ k + 1
        omega
theorem rkn_bounds {p : Nat} (hp : 3 ≤ p) (op x y : Int) : 0 ≤ rkn p op x y ∧ rkn p op x y < p := by
  unfold rkn
  split
  · exact emod_bounds _ p hp
  · split
    · exact emod_bounds _ p hp
    · split
      · exact emod_bounds _ p hp
      · split
        · exact emod_bounds _ p hp
        · split
          · omega
          · omega

end Go.Proofs.YtdpdmgmeieijaaaGreatDoor
