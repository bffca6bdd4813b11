/- What the field's method Invs answers, by its own text: the memory that it makes, its two loops. What package poly's Fit answers. -/
import Derived.Test.YtlhjifpomchnfaaGreatDoorPoAC
import Derived.Test.YtlhjifpomchnfaaGreatDoorFld
import Derived.Sort.CutIn
import Derived.Test.YtlhjifpomchnfaaGreatDoorPoAA
namespace Go.Proofs.YtlhjifpomchnfaaGreatDoor
open Go.RowKit Go.Shelf

attribute [local go_sem] Oper.semAt_some

/-- the new list's cells -/
structure Out (N n p : Nat) (o : Nat → Nat) (W : World) : Prop where
  cells : ∀ j, j < n → W.cell? ⟨N + 1, j, none⟩ = some (.int .i64 (o j : Int))
  soft : ∀ j, j < n → W.frozen? ⟨N + 1, j, none⟩ = false
  lt : ∀ j, j < n → o j < p

/-- the boxes of the field and of the new list -/
structure Boxes (N n b : Nat) (W : World) : Prop where
  fbox : W.cell? ⟨N, 0, none⟩ = some (.pointer (some ⟨b, 0, none⟩))
  obox : W.cell? ⟨N + 2, 0, none⟩ = some (.slice (some ⟨N + 1, 0, none⟩) n n)

theorem Out.set {N n p : Nat} {o : Nat → Nat} {W : World} (h : Out N n p o W) {i x : Nat} (hi : i < n) (hx : x < p) : Out N n p (updI o i x) (W.setCell ⟨N + 1, i, none⟩ (.int .i64 (x : Int))) := by
  refine ⟨fun j hj => ?_, fun j hj => by rw [World.frozen?_setCell]; exact h.soft j hj, fun j hj => ?_⟩
  · unfold updI
    by_cases hji : j = i
    · subst hji; rw [if_pos rfl]; exact World.cell?_setCell_same _ _ _ (h.cells j hj)
    · rw [if_neg hji, World.cell?_setCell_other _ _ _ _ (by intro e; cases e; exact hji rfl)]; exact h.cells j hj
  · unfold updI
    by_cases hji : j = i
    · rw [if_pos hji]; exact hx
    · rw [if_neg hji]; exact h.lt j hj

theorem cell_far (W : World) (a c : Addr) (v : Value) (h : a.block ≠ c.block) : (W.setCell a v).cell? c = W.cell? c := World.cell?_setCell_other _ _ _ _ (fun e => h (by rw [e]))

theorem Out.far {N n p : Nat} {o : Nat → Nat} {W : World} (h : Out N n p o W) {a : Addr} (ha : a.block ≠ N + 1) (v : Value) : Out N n p o (W.setCell a v) :=
  ⟨fun j hj => by rw [cell_far _ _ _ _ ha]; exact h.cells j hj, fun j hj => by rw [World.frozen?_setCell]; exact h.soft j hj, h.lt⟩

theorem Boxes.far {N n b : Nat} {W : World} (h : Boxes N n b W) {a : Addr} (h1 : a.block ≠ N) (h2 : a.block ≠ N + 2) (v : Value) : Boxes N n b (W.setCell a v) :=
  ⟨by rw [cell_far _ _ _ _ h1]; exact h.fbox, by rw [cell_far _ _ _ _ h2]; exact h.obox⟩

theorem Out.drew {N n p : Nat} {o : Nat → Nat} {W : World} (h : Out N n p o W) : Out N n p o W.drew := ⟨h.cells, h.soft, h.lt⟩
theorem Boxes.drew {N n b : Nat} {W : World} (h : Boxes N n b W) : Boxes N n b W.drew := ⟨h.fbox, h.obox⟩

theorem Out.alloc {N n p : Nat} {o : Nat → Nat} {W : World} (h : Out N n p o W) (hN : N + 1 < W.heap.size) (q : Obj) : Out N n p o (W.alloc q) :=
  ⟨fun j hj => by rw [World.cell?_alloc_lt _ _ ⟨N + 1, j, none⟩ hN]; exact h.cells j hj, fun j hj => by rw [World.frozen?_alloc_old _ _ ⟨N + 1, j, none⟩ (by simp; omega)]; exact h.soft j hj, h.lt⟩

theorem Boxes.alloc {N n b : Nat} {W : World} (h : Boxes N n b W) (hN : N + 2 < W.heap.size) (q : Obj) : Boxes N n b (W.alloc q) :=
  ⟨by rw [World.cell?_alloc_lt _ _ ⟨N, 0, none⟩ (by simp; omega)]; exact h.fbox, by rw [World.cell?_alloc_lt _ _ ⟨N + 2, 0, none⟩ hN]; exact h.obox⟩

theorem Out.kept {N n p : Nat} {o : Nat → Nat} {W W' : World} {row : Option Nat} (h : Out N n p o W) (hg : W.grownBy W' row) (hr : ∀ r, row = some r → ∃ q : Obj, W.heap[r]? = some q ∧ q.isCells = false) : Out N n p o W' :=
  ⟨fun j hj => cell_kept (h.cells j hj) hg hr, fun j hj => (frozen_kept (h.cells j hj) hg hr).trans (h.soft j hj), h.lt⟩

theorem Boxes.kept {N n b : Nat} {W W' : World} {row : Option Nat} (h : Boxes N n b W) (hg : W.grownBy W' row) (hr : ∀ r, row = some r → ∃ q : Obj, W.heap[r]? = some q ∧ q.isCells = false) : Boxes N n b W' :=
  ⟨cell_kept h.fbox hg hr, cell_kept h.obox hg hr⟩

end Go.Proofs.YtlhjifpomchnfaaGreatDoor

namespace Go.Proofs.YtlhjifpomchnfaaGreatDoor
open Go.RowKit

/-- what the i-th product is multiplied by -/
def fc (p : Nat) (xs ys : List Int) (i : Nat) : Int := zat ys i * (invn p (evz p (vskl p xs i xs.length) (zat xs i)) : Int) % (p : Int)

/-- the sum of the first i products -/
def FS (p : Nat) (xs ys : List Int) : Nat → Nat → Int
  | 0 => Pol.zero
  | i + 1 => Pol.add (FS p xs ys i) (Pol.sc (fc p xs ys i) (Pol.vsk (zat xs) i xs.length))

/-- the polynomial through the points -/
def pfit (p : Nat) (xs ys : List Int) : List Int := Pol.mk p (FS p xs ys xs.length) xs.length

end Go.Proofs.YtlhjifpomchnfaaGreatDoor
