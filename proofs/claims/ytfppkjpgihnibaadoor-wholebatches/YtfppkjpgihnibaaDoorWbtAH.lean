/- Plain facts on products of x less numbers: they tell lists apart. Lists of cells that are read; what pairs come to, and their products. attestref8: ahead, Sorted, Each. attestref8: Sorted, Each. attestref8: Each. -/
import Derived.Test.YtfppkjpgihnibaaDoorPlain
import Derived.Test.YtfppkjpgihnibaaDoorWbtAA
import Derived.Test.YtfppkjpgihnibaaDoorFld
import Derived.Deep.QuietTactic
import Derived.BigQuiet
import Derived.Laws.AppendOwnNone
import Derived.Deep.RegionHeld3
namespace Go.Proofs.YtfppkjpgihnibaaDoor.Pol

/-- the product of x less each of a list, as a polynomial -/
def pl : List Int → S
  | [] => one
  | r :: l => mul (pl l) (lin r)
end Go.Proofs.YtfppkjpgihnibaaDoor.Pol

namespace Go.Proofs.YtfppkjpgihnibaaDoor
open Go.RowKit

/-- a list of cells that can be read -/
structure LstC (n0 : Nat) (w : World) (a : Option Addr) (cap : Nat) (L : List (Int × Int)) : Prop where
  row : ∀ k, k < L.length → ∃ b o, a = some ⟨b, o, none⟩ ∧ b < n0 ∧ w.cell? ⟨b, o + k * 2, none⟩ = some (.int .i64 (cat L k).1) ∧ w.cell? ⟨b, o + k * 2 + 1, none⟩ = some (.int .i64 (cat L k).2)
  room : L.length ≤ cap
  nil : a = none → cap = 0
theorem LstC.below {n0 : Nat} {A B : World} {a : Option Addr} {cap : Nat} {L : List (Int × Int)} (r : LstC n0 A a cap L) (h : Below n0 A B) : LstC n0 B a cap L :=
  ⟨fun k hk => by
    obtain ⟨b, o, h1, h2, h3, h4⟩ := r.row k hk
    exact ⟨b, o, h1, h2, (h.cell (p := ⟨b, o + k * 2, none⟩) h2).trans h3, (h.cell (p := ⟨b, o + k * 2 + 1, none⟩) h2).trans h4⟩, r.room, r.nil⟩
theorem LstC.mono {n0 n1 : Nat} {A : World} {a : Option Addr} {cap : Nat} {L : List (Int × Int)} (r : LstC n0 A a cap L) (h : n0 ≤ n1) : LstC n1 A a cap L :=
  ⟨fun k hk => by
    obtain ⟨b, o, h1, h2, h3⟩ := r.row k hk
    exact ⟨b, o, h1, by omega, h3⟩, r.room, r.nil⟩
/-- what a pair comes to with y -/
def nb (p : Nat) (y : Int) (c : Int × Int) : Int := (c.1 + c.2 * y) % (p : Int)
/-- the product, place by place -/
def prd (p : Nat) (x y : Int) (L : List (Int × Int)) : Nat → Int
  | 0 => 1
  | k + 1 => prd p x y L k * ((x - nb p y (cat L k)) % (p : Int)) % (p : Int)
end Go.Proofs.YtfppkjpgihnibaaDoor

namespace Go.Proofs.YtfppkjpgihnibaaDoor
open Go.RowKit

/-- a pair is not behind another -/
def cle (a b : Int × Int) : Prop := a.1 < b.1 ∨ (a.1 = b.1 ∧ a.2 ≤ b.2)
instance (a b : Int × Int) : Decidable (cle a b) := inferInstanceAs (Decidable (_ ∨ _))
theorem cle_total (a b : Int × Int) : cle a b ∨ cle b a := by unfold cle; omega
/-- is it ahead? -/
def ahd (a b : Int × Int) : Bool := !decide (cle b a)

theorem LstC.each {n0 : Nat} {w : World} {ad : Addr} {cap : Nat} {L : List (Int × Int)} (hl : LstC n0 w (some ad) cap L) (j : Nat) (u : Value) (hu : (celv L)[j]? = some u) : ∃ b o, ad = ⟨b, o, none⟩ ∧ b < n0 ∧ w.cell? ⟨b, o + j, none⟩ = some u := by
  have hj : j < (celv L).length := by
    rcases Nat.lt_or_ge j (celv L).length with g | g
    · exact g
    · simp [g] at hu
  rw [celv_len] at hj
  have hk : j / 2 < L.length := by omega
  obtain ⟨b, o, h1, h2, c0, c1⟩ := hl.row (j / 2) hk
  obtain ⟨e0, e1⟩ := celv_at L (j / 2) hk
  cases h1
  refine ⟨b, o, rfl, h2, ?_⟩
  rcases (show j = j / 2 * 2 ∨ j = j / 2 * 2 + 1 by omega) with h | h <;> (rw [h] at hu ⊢)
  · rw [← hu, e0]; exact c0
  · rw [← hu, e1, ← Nat.add_assoc]; exact c1

/-- a row of cells that can be written -/
structure CRow (g : Nat) (w : World) (l : List (Int × Int)) : Prop where
  lt : g < w.heap.size
  cells : ∀ k, k < l.length → w.cell? ⟨g, k * 2, none⟩ = some (.int .i64 (cat l k).1) ∧ w.cell? ⟨g, k * 2 + 1, none⟩ = some (.int .i64 (cat l k).2)
  soft : ∀ j, w.frozen? ⟨g, j, none⟩ = false
theorem CRow.block {g : Nat} {w w' : World} {l : List (Int × Int)} (h : CRow g w l) (e : w'.heap[g]? = w.heap[g]?) : CRow g w' l := by
  have hl : g < w'.heap.size := by
    have := h.lt
    rcases Nat.lt_or_ge g w'.heap.size with g1 | g1
    · exact g1
    · rw [Array.getElem?_eq_none g1, Array.getElem?_eq_getElem this] at e; cases e
  exact ⟨hl, fun k hk => ⟨(World.cell?_of_block (w := w) (a := ⟨g, k * 2, none⟩) e).trans (h.cells k hk).1, (World.cell?_of_block (w := w) (a := ⟨g, k * 2 + 1, none⟩) e).trans (h.cells k hk).2⟩, fun j => (World.frozen?_of_block (w := w) (a := ⟨g, j, none⟩) e).trans (h.soft j)⟩
theorem CRow.below {g n : Nat} {w w' : World} {l : List (Int × Int)} (h : CRow g w l) (e : Below n w w') (hg : g < n) : CRow g w' l := h.block (e.block g hg)
theorem cat_set {l : List (Int × Int)} {k j : Nat} {c : Int × Int} (hk : k < l.length) : cat (l.set k c) j = if j = k then c else cat l j := by
  unfold cat
  rw [List.getD_eq_getElem?_getD, List.getElem?_set]
  by_cases h : k = j
  · subst h; simp [hk]
  · rw [if_neg h, if_neg (fun e => h e.symm), List.getD_eq_getElem?_getD]
theorem CRow.set {g : Nat} {w : World} {l : List (Int × Int)} (h : CRow g w l) {k : Nat} (c : Int × Int) (hk : k < l.length) : CRow g ((w.setCell ⟨g, k * 2, none⟩ (.int .i64 c.1)).setCell ⟨g, k * 2 + 1, none⟩ (.int .i64 c.2)) (l.set k c) := by
  refine ⟨by simpa using h.lt, fun j hj => ?_, fun j => by rw [World.frozen?_setCell, World.frozen?_setCell]; exact h.soft j⟩
  rw [List.length_set] at hj
  have hc := h.cells j hj
  rw [cat_set hk]
  have ho : ∀ (W : World) (u v : Nat) (x : Value), u ≠ v → (W.setCell ⟨g, u, none⟩ x).cell? ⟨g, v, none⟩ = W.cell? ⟨g, v, none⟩ := fun W u v x huv => World.cell?_setCell_other _ _ _ _ (by intro e; injection e with _ h2 _; omega)
  by_cases e : j = k
  · subst e
    rw [if_pos rfl]
    constructor
    · rw [ho _ _ _ _ (by omega)]
      exact World.cell?_setCell_same _ _ _ hc.1
    · exact World.cell?_setCell_same _ _ _ ((ho _ _ _ _ (by omega)).trans hc.2)
  · rw [if_neg e]
    constructor
    · rw [ho _ _ _ _ (by omega), ho _ _ _ _ (by omega)]; exact hc.1
    · rw [ho _ _ _ _ (by omega), ho _ _ _ _ (by omega)]; exact hc.2
theorem CRow.lst {g cap : Nat} {w : World} {l : List (Int × Int)} (h : CRow g w l) (hc : l.length ≤ cap) : LstC w.heap.size w (some ⟨g, 0, none⟩) cap l :=
  ⟨fun k hk => ⟨g, 0, rfl, h.lt, by rw [Nat.zero_add]; exact (h.cells k hk).1, by rw [Nat.zero_add]; exact (h.cells k hk).2⟩, hc, fun e => by cases e⟩
end Go.Proofs.YtfppkjpgihnibaaDoor

namespace Go.Proofs.YtfppkjpgihnibaaDoor
open Go.RowKit

/-- the first i are sorted -/
def Srt (l : List (Int × Int)) (i : Nat) : Prop := ∀ x y, x < y → y < i → cle (cat l x) (cat l y)
/-- .. but for the one at k, which goes down -/
def Ins1 (l : List (Int × Int)) (i k : Nat) : Prop := (∀ x y, x < y → y ≤ i → x ≠ k → y ≠ k → cle (cat l x) (cat l y)) ∧ ∀ y, k < y → y ≤ i → cle (cat l k) (cat l y)
def swp (l : List (Int × Int)) (k m : Nat) : List (Int × Int) := (l.set k (cat l m)).set m (cat l k)
theorem swp_at {l : List (Int × Int)} {k m : Nat} (hk : k < l.length) (hm : m < l.length) (j : Nat) : cat (swp l k m) j = if j = m then cat l k else if j = k then cat l m else cat l j := by
  unfold swp
  rw [cat_set (by simpa using hm), cat_set hk]
theorem Ins1.start {l : List (Int × Int)} {i : Nat} (h : Srt l i) : Ins1 l i i := ⟨fun x y h1 h2 _ h4 => h x y h1 (by omega), fun y h1 h2 => by omega⟩
theorem Ins1.zero {l : List (Int × Int)} {i : Nat} (h : Ins1 l i 0) : Srt l (i + 1) := fun x y h1 h2 => by
  by_cases e : x = 0
  · subst e; exact h.2 y h1 (by omega)
  · exact h.1 x y h1 (by omega) e (by omega)
theorem Ins1.step {l : List (Int × Int)} {i k m : Nat} (h : Ins1 l i k) (hk : k = m + 1) (hki : k ≤ i) (hi : i < l.length) (hc : ahd (cat l k) (cat l m) = true) : Ins1 (swp l k m) i m := by
  have hc' : ¬ cle (cat l m) (cat l k) := by simpa [ahd] using hc
  have hlk : k < l.length := by omega
  have hlm : m < l.length := by omega
  refine ⟨fun x y h1 h2 h3 h4 => ?_, fun y h1 h2 => ?_⟩
  · rw [swp_at hlk hlm, swp_at hlk hlm, if_neg h3, if_neg h4]
    by_cases e : x = k
    · rw [if_pos e, if_neg (by omega)]
      exact h.1 m y (by omega) h2 (by omega) (by omega)
    · rw [if_neg e]
      by_cases e2 : y = k
      · rw [if_pos e2]
        exact h.1 x m (by omega) (by omega) e (by omega)
      · rw [if_neg e2]
        exact h.1 x y h1 h2 e e2
  · rw [swp_at hlk hlm, swp_at hlk hlm, if_pos rfl, if_neg (by omega)]
    by_cases e : y = k
    · rw [if_pos e]
      exact (cle_total _ _).resolve_left hc'
    · rw [if_neg e]
      exact h.2 y (by omega) h2
theorem Srt.all {l : List (Int × Int)} (h : Srt l l.length) : l.Pairwise cle := by
  rw [List.pairwise_iff_getElem]
  intro i j hi hj hij
  have := h i j hij hj
  simpa [cat, hi, hj] using this
/-- the state of Sorted -/
structure SrI (g n i : Nat) (L l : List (Int × Int)) (w wr : World) : Prop where
  len : l.length = n
  perm : l.Perm L
  srt : Srt l i
  row : CRow g wr l
  bel : Below w.heap.size w wr
structure SrJ (g n i k : Nat) (L l : List (Int × Int)) (w wr : World) : Prop where
  len : l.length = n
  perm : l.Perm L
  ins : Ins1 l i k
  row : CRow g wr l
  bel : Below w.heap.size w wr

end Go.Proofs.YtfppkjpgihnibaaDoor

namespace Go.Proofs.YtfppkjpgihnibaaDoor
open Go.RowKit

end Go.Proofs.YtfppkjpgihnibaaDoor
