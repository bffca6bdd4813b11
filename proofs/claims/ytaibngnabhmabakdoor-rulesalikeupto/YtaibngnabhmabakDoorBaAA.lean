/- attestref6: the cells that are told, and the machine's own words. attestref6: shown, look, tell, must. attestref6: look, tell, must. -/
import Derived.Test.YtaibngnabhmabakDoorFld
import Derived.StillTailTactics
namespace Go.Proofs.YtaibngnabhmabakDoor
open Go.RowKit

/-- cells, as they lie in memory -/
def celv : List (Int × Int) → List Value
  | [] => []
  | c :: r => .int .i64 c.1 :: .int .i64 c.2 :: celv r
def cat (cs : List (Int × Int)) (j : Nat) : Int × Int := cs.getD j (0, 0)
theorem celv_len : ∀ cs, (celv cs).length = cs.length * 2
  | [] => rfl
  | c :: r => by simp [celv, celv_len r]; omega
theorem celv_app : ∀ cs ds, celv (cs ++ ds) = celv cs ++ celv ds
  | [], ds => rfl
  | c :: r, ds => by simp [celv, celv_app r ds]
theorem celv_at : ∀ (cs : List (Int × Int)) (j : Nat), j < cs.length → (celv cs)[j * 2]? = some (.int .i64 (cat cs j).1) ∧ (celv cs)[j * 2 + 1]? = some (.int .i64 (cat cs j).2)
  | [], _, h => absurd h (Nat.not_lt_zero _)
  | c :: r, 0, _ => ⟨rfl, rfl⟩
  | c :: r, j + 1, h => by
    have ih := celv_at r j (by simpa using h)
    have e1 : (j + 1) * 2 = j * 2 + 2 := by omega
    rw [e1]
    exact ih
/-- the place of a cell; -1: there is none -/
def finz (cs : List (Int × Int)) (x : Int) : Int := match cs.findIdx? (fun c => c.1 == x) with
  | some i => i
  | none => -1
theorem finz_hit {cs : List (Int × Int)} {x : Int} {i : Nat} (hi : i < cs.length) (hx : (cat cs i).1 = x) (hn : ∀ j, j < i → (cat cs j).1 ≠ x) : finz cs x = i := by
  have h : cs.findIdx? (fun c => c.1 == x) = some i := by
    rw [List.findIdx?_eq_some_iff_getElem]
    refine ⟨hi, by simpa [cat, hi] using hx, fun j hj => ?_⟩
    have := hn j hj
    have hj' : j < cs.length := by omega
    simpa [cat, hj'] using this
  unfold finz
  rw [h]
theorem finz_miss {cs : List (Int × Int)} {x : Int} (hn : ∀ j, j < cs.length → (cat cs j).1 ≠ x) : finz cs x = -1 := by
  have h : cs.findIdx? (fun c => c.1 == x) = none := by
    rw [List.findIdx?_eq_none_iff]
    intro c hc
    obtain ⟨j, hj, rfl⟩ := List.getElem_of_mem hc
    have := hn j hj
    simpa [cat, hj] using this
  unfold finz
  rw [h]
/-- cells of the call's own -/
def CelR (base : Nat) (w : World) (v : Value) (cs : List (Int × Int)) : Prop := w.ownsRow base 39 2 v cs.length (celv cs)
theorem CelR.form {base : Nat} {w : World} {v : Value} {cs : List (Int × Int)} (h : CelR base w v cs) : ∃ a c, v = .slice a cs.length c := by
  obtain ⟨_, h2⟩ := h
  rcases h2 with ⟨rfl, h0⟩ | ⟨g, cap, cur, rfl, _⟩
  · exact ⟨none, 0, by rw [h0]⟩
  · exact ⟨_, _, rfl⟩
theorem CelR.at {base : Nat} {w : World} {v : Value} {cs : List (Int × Int)} (h : CelR base w v cs) {j : Nat} (hj : j < cs.length) : ∃ g cap, v = .slice (some ⟨g, 0, none⟩) cs.length cap ∧ base ≤ g ∧ w.cell? ⟨g, j * 2, none⟩ = some (.int .i64 (cat cs j).1) ∧ w.cell? ⟨g, j * 2 + 1, none⟩ = some (.int .i64 (cat cs j).2) := by
  have h' := h
  obtain ⟨_, h2⟩ := h
  rcases h2 with ⟨rfl, h0⟩ | ⟨g, cap, cur, rfl, hb, hg, hn, hm, hs, ht⟩
  · omega
  · have hc : ∀ j u, (celv cs)[j]? = some u → w.cell? ⟨g, j, none⟩ = some u := fun j u hu => by
      have := World.ownsRow.cells h' (g := g) rfl j u hu
      have hadd : (⟨g, 0, none⟩ : Addr).add j = ⟨g, 0 + j, none⟩ := by unfold Addr.add; split <;> simp_all
      rw [hadd, Nat.zero_add] at this
      exact this
    exact ⟨g, cap, rfl, hb, hc _ _ (celv_at cs j hj).1, hc _ _ (celv_at cs j hj).2⟩

/-- the reference's machine -/
structure RM where
  cs : List (Int × Int)
  pc : Int
  fp : Int
  ap : Int
  rv : Int
  at' : Nat → Int
  is' : Nat → Int
  slot : Nat
  err : Int
def rmv (p : Nat) (v : Value) (s : RM) : Nat → Value
  | 0 => .int .i64 p
  | 1 => v
  | 2 => .int .i64 s.pc
  | 3 => .int .i64 s.fp
  | 4 => .int .i64 s.ap
  | 5 => .int .i64 s.rv
  | 6 => .int .i64 (s.at' 0)
  | 7 => .int .i64 (s.at' 1)
  | 8 => .int .i64 (s.at' 2)
  | 9 => .int .i64 (s.is' 0)
  | 10 => .int .i64 (s.is' 1)
  | 11 => .int .i64 (s.is' 2)
  | 12 => .int .i64 s.slot
  | _ => .int .i64 s.err

end Go.Proofs.YtaibngnabhmabakDoor

namespace Go.Proofs.YtaibngnabhmabakDoor
open Go.RowKit

def updM (f : Nat → Int) (i : Nat) (x : Int) : Nat → Int := fun j => if j = i then x else f j
def RM.shown (s : RM) (x y : Int) : RM := { s with at' := updM s.at' s.slot x, is' := updM s.is' s.slot y, slot := s.slot + 1 }
theorem rowF {w : World} {g n : Nat} {t : TypeId} {f : Nat → Value} (h : w.rowIs g t n f) (i : Nat) : w.frozen? ⟨g, i, none⟩ = false := h.frozen i
theorem gbM {w w' : World} {M i : Nat} {v : Value} (h : w.grownBy w' (some M)) : w.grownBy (w'.setCell ⟨M, i, none⟩ v) (some M) :=
  ⟨h.os, h.tape, h.output, by have := h.size; simpa [World.setCell] using this, fun k hk hne => (Below.heap_setCell _ _ _ _ (by show k ≠ M; intro e; exact hne (by rw [e]))).trans (h.block k hk hne)⟩

theorem gb_same (w : World) (M : Nat) : w.grownBy w (some M) := ⟨rfl, rfl, rfl, Nat.le_refl _, fun _ _ _ => rfl⟩
theorem gb_drewB {w w' : World} {g : Option Nat} (h : w.grownBy w' g) : w.grownBy w'.drew g := ⟨h.os, h.tape, h.output, h.size, h.block⟩
theorem fourteen {i : Nat} (h : i < 14) : i = 0 ∨ i = 1 ∨ i = 2 ∨ i = 3 ∨ i = 4 ∨ i = 5 ∨ i = 6 ∨ i = 7 ∨ i = 8 ∨ i = 9 ∨ i = 10 ∨ i = 11 ∨ i = 12 ∨ i = 13 := by omega
theorem rmv_at (k : Nat) (hk : k < 3) (p : Nat) (v : Value) (s : RM) (x : Int) : ∀ i, i < 14 → (if i = 6 + k then Value.int .i64 x else rmv p v s i) = rmv p v { s with at' := updM s.at' k x } i := fun i hi => by
  have h3 : k = 0 ∨ k = 1 ∨ k = 2 := by omega
  rcases h3 with rfl | rfl | rfl <;> rcases fourteen hi with rfl | rfl | rfl | rfl | rfl | rfl | rfl | rfl | rfl | rfl | rfl | rfl | rfl | rfl <;> simp [rmv, updM]
theorem rmv_is (k : Nat) (hk : k < 3) (p : Nat) (v : Value) (s : RM) (x : Int) : ∀ i, i < 14 → (if i = 9 + k then Value.int .i64 x else rmv p v s i) = rmv p v { s with is' := updM s.is' k x } i := fun i hi => by
  have h3 : k = 0 ∨ k = 1 ∨ k = 2 := by omega
  rcases h3 with rfl | rfl | rfl <;> rcases fourteen hi with rfl | rfl | rfl | rfl | rfl | rfl | rfl | rfl | rfl | rfl | rfl | rfl | rfl | rfl <;> simp [rmv, updM]
theorem rmv_slot (p : Nat) (v : Value) (s : RM) (k : Nat) : ∀ i, i < 14 → (if i = 12 then Value.int .i64 (k : Int) else rmv p v s i) = rmv p v { s with slot := k } i := fun i hi => by
  rcases fourteen hi with rfl | rfl | rfl | rfl | rfl | rfl | rfl | rfl | rfl | rfl | rfl | rfl | rfl | rfl <;> simp [rmv]
theorem rmv_err (p : Nat) (v : Value) (s : RM) (e : Int) : ∀ i, i < 14 → (if i = 13 then Value.int .i64 e else rmv p v s i) = rmv p v { s with err := e } i := fun i hi => by
  rcases fourteen hi with rfl | rfl | rfl | rfl | rfl | rfl | rfl | rfl | rfl | rfl | rfl | rfl | rfl | rfl <;> simp [rmv]
theorem rmv_cs (p : Nat) (v v' : Value) (s : RM) (c : List (Int × Int)) : ∀ i, i < 14 → (if i = 1 then v' else rmv p v s i) = rmv p v' { s with cs := c } i := fun i hi => by
  rcases fourteen hi with rfl | rfl | rfl | rfl | rfl | rfl | rfl | rfl | rfl | rfl | rfl | rfl | rfl | rfl <;> simp [rmv]

end Go.Proofs.YtaibngnabhmabakDoor

namespace Go.Proofs.YtaibngnabhmabakDoor
open Go.RowKit

theorem gb_low {N M : Nat} {w w' : World} (h : w.grownBy w' (some M)) (hN : N ≤ M) (hM : M < w.heap.size) : Below N w w' := ⟨h.os, h.tape, h.output, h.size, fun k hk => h.block k (by omega) (by intro e; injection e with e; omega)⟩
def RM.look (s : RM) (x : Int) : RM × Int := if s.err ≠ 0 then (s, 0) else if finz s.cs x < 0 then ({ s with err := 10 }, 0) else (s.shown x (cat s.cs (finz s.cs x).toNat).2, (cat s.cs (finz s.cs x).toNat).2)
def RM.must (s : RM) (b : Bool) : RM := if s.err = 0 ∧ b = false then { s with err := 7 } else s
def RM.tell (p : Nat) (s : RM) (x y : Int) : RM := if s.err ≠ 0 then s else if 0 ≤ finz s.cs x ∧ (cat s.cs (finz s.cs x).toNat).2 ≠ y % p then { s with err := 7 } else
  if finz s.cs x < 0 then ({ s with cs := s.cs ++ [(x, y % p)] } : RM).shown x (y % p) else s.shown x (y % p)
theorem finz_cases (cs : List (Int × Int)) (x : Int) : finz cs x = -1 ∨ ∃ i : Nat, finz cs x = i ∧ i < cs.length ∧ (cat cs i).1 = x := by
  unfold finz
  split
  · rename_i i h
    rw [List.findIdx?_eq_some_iff_getElem] at h
    obtain ⟨h1, h2, _⟩ := h
    exact .inr ⟨i, rfl, h1, by simpa [cat, h1] using h2⟩
  · exact .inl rfl

end Go.Proofs.YtaibngnabhmabakDoor
