/- Package tree: isShown. Package tree: joined, hash, seeRow. Package tree: a walk's root. -/
import Derived.Test.YtaibngnabhmabajGreatDoorBtAU
import Derived.Test.YtaibngnabhmabajGreatDoorTres
import Derived.Test.YtaibngnabhmabajGreatDoorTrgs
import Derived.Test.YtaibngnabhmabajGreatDoorBtAQ
namespace Go.Proofs.YtaibngnabhmabajGreatDoor
open Go.RowKit

theorem seg_all {ps : List Int} {N : Nat} (h : ∀ x ∈ ps, 0 ≤ x ∧ x < (N : Int)) : seg ps ((0 : Nat) : Int) (((0 : Nat) : Int) + (N : Int)) = ps := by
  unfold seg
  rw [List.filter_eq_self]
  intro x hx
  have := h x hx
  simp
  omega
theorem lack_all {ps : List Int} {N : Nat} (h : ps.any (lackb 0 N) = false) : ∀ x ∈ ps, 0 ≤ x ∧ x < (N : Int) := fun x hx => by
  have := List.any_eq_false.1 h x hx
  simp [lackb] at this
  omega

def ShwnR (N : Nat) (ps : List Int) (rows nodes : List (List Int)) (w : World) (e : Ending) (w' : World) : Prop := (∃ t, e = .returned (.bool t) ∧ (t = true ↔ shwn N ps rows nodes)) ∧ Below w.heap.size w w'
theorem ShwnR.no {N : Nat} {ps : List Int} {rows nodes : List (List Int)} {w w' : World} (h : ¬ shwn N ps rows nodes) (hb : Below w.heap.size w w') : ShwnR N ps rows nodes w (.returned (.bool false)) w' := ⟨⟨false, rfl, by simp; exact h⟩, hb⟩
theorem ShwnR.mk {N : Nat} {ps : List Int} {rows nodes : List (List Int)} {w w' : World} (t : Bool) (h : t = true ↔ shwn N ps rows nodes) (hb : Below w.heap.size w w') : ShwnR N ps rows nodes w (.returned (.bool t)) w' := ⟨⟨t, rfl, h⟩, hb⟩
/-- an Opening in memory -/
structure OpnAt (W : World) (O cp cr cn : Nat) (ap ar an' : Option Addr) (ps : List Int) (rows nodes : List (List Int)) : Prop where
  c0 : W.cell? ⟨O, 0, none⟩ = some (.slice ap ps.length cp)
  c1 : W.cell? ⟨O, 1, none⟩ = some (.slice ar rows.length cr)
  c2 : W.cell? ⟨O, 2, none⟩ = some (.slice an' nodes.length cn)

end Go.Proofs.YtaibngnabhmabajGreatDoor

namespace Go.Proofs.YtaibngnabhmabajGreatDoor
open Go.RowKit

theorem flat_snoc {rows : List (List Int)} {k : Nat} (h : k < rows.length) : (rows.take (k + 1)).flatten = (rows.take k).flatten ++ rat rows k := by
  have e : rows.take (k + 1) = rows.take k ++ [rat rows k] := by
    rw [List.take_add_one, List.getElem?_eq_getElem h]
    unfold rat
    rw [List.getD_eq_getElem?_getD, List.getElem?_eq_getElem h]
    rfl
  rw [e, List.flatten_append]
  simp
theorem flat_le {rows : List (List Int)} (k : Nat) : (rows.take k).flatten.length ≤ rows.flatten.length := by
  have := congrArg (fun l => (List.flatten l).length) (List.take_append_drop k rows)
  simp only [List.flatten_append, List.length_append] at this
  omega

theorem hidK {α β : Type} {A B : α → β → Prop} {C : α → β → Prop} (h : ∀ x y, Hid (A x y) → B x y → C x y) : ∀ x y, A x y → B x y → C x y := fun x y a b => h x y a b

theorem an4 (f : Nat → Int) : an 4 f = #[.int .i64 (f 0), .int .i64 (f 1), .int .i64 (f 2), .int .i64 (f 3)] := rfl

theorem arr4_set {W : World} {g : Nat} {t : TypeId} {f : Nat → Int} (h : ArrI W g t 4 f) (G : Nat → Int) : ArrI ((((W.setCell ⟨g, 0, none⟩ (.int .i64 (G 0))).setCell ⟨g, 1, none⟩ (.int .i64 (G 1))).setCell ⟨g, 2, none⟩ (.int .i64 (G 2))).setCell ⟨g, 3, none⟩ (.int .i64 (G 3))) g t 4 G :=
  ((((h.set 0 (G 0)).set 1 (G 1)).set 2 (G 2)).set 3 (G 3)).congr (fun j hj => by
    have : j = 0 ∨ j = 1 ∨ j = 2 ∨ j = 3 := by omega
    rcases this with rfl | rfl | rfl | rfl <;> rfl)

theorem lstR_one {w : World} {a : Option Addr} {cap : Nat} {row : List Int} (hl : Lst w.heap.size w a cap row) : LstR (w.heap.size + 1) (w.drew.alloc (.cells #[.slice a row.length cap] 22)) (some ⟨w.heap.size, 0, none⟩) 1 [row] := by
  have hb : Below w.heap.size w (w.drew.alloc (.cells #[.slice a row.length cap] 22)) := (Below.refl _ _).drew.alloc (Nat.le_refl _) _
  refine ⟨fun k hk => ?_, Nat.le_refl _, fun h => by cases h⟩
  obtain rfl : k = 0 := by simp at hk; omega
  refine ⟨w.heap.size, 0, a, cap, rfl, by omega, ?_, (hl.below hb).mono (by omega)⟩
  have := heap_alloc_new w.drew (.cells #[.slice a row.length cap] 22)
  unfold World.cell?
  rw [show (w.drew.alloc (.cells #[.slice a row.length cap] 22)).heap[(⟨w.heap.size, 0 + 0, none⟩ : Addr).block]? = some (.cells #[.slice a row.length cap] 22 (0, 0)) from this]
  rfl

end Go.Proofs.YtaibngnabhmabajGreatDoor

namespace Go.Proofs.YtaibngnabhmabajGreatDoor
open Go.RowKit

/-- what is found is right -/
def Snd (M : Nat → Nat → Option (List Int)) (D : Nat → Nat → List Int) : Prop := ∀ a b d, M a b = some d → d = D a b
/-- what was found stays -/
def Sub (M M' : Nat → Nat → Option (List Int)) : Prop := ∀ a b, M a b ≠ none → M' a b ≠ none
/-- of what is new both parts are found -/
def ClM (M M' : Nat → Nat → Option (List Int)) : Prop := ∀ a b, M' a b ≠ none → M a b ≠ none ∨ (2 ≤ b - a ∧ M' a (a + lft (b - a)) ≠ none ∧ M' (a + lft (b - a)) b ≠ none)

end Go.Proofs.YtaibngnabhmabajGreatDoor
