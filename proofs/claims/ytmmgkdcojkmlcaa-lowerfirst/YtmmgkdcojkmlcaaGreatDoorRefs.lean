/- attestref3, the digests: common, Power, Constant, Mix, Permute, Pad, Hash; attestref1.All as a list of its own. attestref3, the digests: Permute, Pad, Hash; attestref1.Same; attestlaw3.differ. attestref3, the digests: Hash; attestref1.Same; attestlaw3.differ. attestref1.Same; attestlaw3.differ. Plain facts on digests: unlike lists have unlike Pads; stirring is undone in one way alone. attestref3, the trees: Leaf, Node, Left, Root. attestref3, the trees: Some, Once. -/
import Derived.Test.YtmmgkdcojkmlcaaGreatDoorPlain
import Derived.Test.YtmmgkdcojkmlcaaGreatDoorPls
import Derived.Test.YtmmgkdcojkmlcaaGreatDoorDoms
import Derived.Deep.QuietTactic
import Derived.StillTailTactics
import Derived.Laws.AppendOwnNone
namespace Go.Proofs.YtmmgkdcojkmlcaaGreatDoor
open Go.RowKit


/-! ## common, Power -/
/-! ## Constant -/
def cst (q : Nat) (r i : Int) : Int := if r < 0 ∨ 7 < r ∨ i < 0 ∨ 7 < i then 0 else ((8 * r + i + 1) ^ 5 + 3) % (q : Int)
/-! ## Mix -/
def mxs (q : Nat) (f : Nat → Int) (i k : Nat) : Int := Dom.sm (fun j => f j * (invn q ((i + j + 8 : Nat) : Int) : Int) % (q : Int)) k % (q : Int)
def mx (q : Nat) (f : Nat → Int) (i : Nat) : Int := mxs q f i 8
end Go.Proofs.YtmmgkdcojkmlcaaGreatDoor

namespace Go.Proofs.YtmmgkdcojkmlcaaGreatDoor
open Go.RowKit

/-! ## Permute -/
/-- a state after k rounds -/
def stir (q n : Nat) (f : Nat → Int) : Nat → Nat → Int
  | 0, j => f j % (q : Int)
  | k + 1, j => mx q (fun i => (stir q n f k i + cst q k i) ^ n % (q : Int)) j
/-! ## Pad -/
/-- how long a slice is -/
def lenV : Value → Nat
  | .slice _ n _ => n
  | _ => 0
end Go.Proofs.YtmmgkdcojkmlcaaGreatDoor

namespace Go.Proofs.YtmmgkdcojkmlcaaGreatDoor
open Go.RowKit

/-- four of a list are added to a state's first four places -/
def soak (q : Nat) (s P : Nat → Int) (t : Nat) (j : Nat) : Int := if j < 4 then (s j + P (4 * t + j)) % (q : Int) else s j
/-- the state behind t fours of a list -/
def hst (q n : Nat) (P : Nat → Int) : Nat → Nat → Int
  | 0, _ => 0
  | t + 1, j => stir q n (soak q (hst q n P t) P t) 8 j
end Go.Proofs.YtmmgkdcojkmlcaaGreatDoor

namespace Go.Proofs.YtmmgkdcojkmlcaaGreatDoor
open Go.RowKit

end Go.Proofs.YtmmgkdcojkmlcaaGreatDoor

namespace Go.Proofs.YtmmgkdcojkmlcaaGreatDoor
open Go.RowKit

/-! ## powers that are undone -/
/-! ## stirring -/
end Go.Proofs.YtmmgkdcojkmlcaaGreatDoor

namespace Go.Proofs.YtmmgkdcojkmlcaaGreatDoor
open Go.RowKit

/-- a list in a block of numbers -/
def LstD (w : World) (g N : Nat) (l : List Int) : Prop := Lst w.heap.size w (some ⟨g, 0, none⟩) N l ∧ ∃ c f, w.heap[g]? = some (.cells c 3 f)
/-! ## Left -/
/-! ## rows of rows -/
def rat (rows : List (List Int)) (k : Nat) : List Int := rows.getD k []
/-- rows that can be read, below n0, with their room -/
structure LstR (n0 : Nat) (w : World) (a : Option Addr) (cap : Nat) (rows : List (List Int)) : Prop where
  row : ∀ k, k < rows.length → ∃ b o ak ck, a = some ⟨b, o, none⟩ ∧ b < n0 ∧ w.cell? ⟨b, o + k, none⟩ = some (.slice ak (rat rows k).length ck) ∧ Lst n0 w ak ck (rat rows k)
  room : rows.length ≤ cap
  nil : a = none → cap = 0

theorem LstR.below {n0 : Nat} {A B : World} {a : Option Addr} {cap : Nat} {rows : List (List Int)} (h : Below n0 A B) (r : LstR n0 A a cap rows) : LstR n0 B a cap rows :=
  ⟨fun k hk => by
    obtain ⟨b, o, ak, ck, h1, h2, h3, h4⟩ := r.row k hk
    exact ⟨b, o, ak, ck, h1, h2, (h.cell (p := ⟨b, o + k, none⟩) h2).trans h3, h4.below h⟩, r.room, r.nil⟩
theorem LstR.mono {n0 n1 : Nat} {A : World} {a : Option Addr} {cap : Nat} {rows : List (List Int)} (h : n0 ≤ n1) (r : LstR n0 A a cap rows) : LstR n1 A a cap rows :=
  ⟨fun k hk => by
    obtain ⟨b, o, ak, ck, h1, h2, h3, h4⟩ := r.row k hk
    exact ⟨b, o, ak, ck, h1, by omega, h3, h4.mono h⟩, r.room, r.nil⟩
theorem rat_take {rows : List (List Int)} {m k : Nat} (h : k < m) : rat (rows.take m) k = rat rows k := by
  unfold rat
  simp [h]
theorem rat_drop (rows : List (List Int)) (m k : Nat) : rat (rows.drop m) k = rat rows (m + k) := by
  unfold rat
  simp [List.getElem?_drop]
theorem LstR.take {n0 : Nat} {w : World} {a : Option Addr} {cap : Nat} {rows : List (List Int)} (r : LstR n0 w a cap rows) (m : Nat) : LstR n0 w a cap (rows.take m) :=
  ⟨fun k hk => by
    rw [List.length_take] at hk
    rw [rat_take (by omega)]
    exact r.row k (by omega), by have := r.room; rw [List.length_take]; omega, r.nil⟩
theorem LstR.drop {n0 : Nat} {w : World} {b o cap : Nat} {rows : List (List Int)} (r : LstR n0 w (some ⟨b, o, none⟩) cap rows) (m : Nat) : LstR n0 w (some ⟨b, o + m, none⟩) (cap - m) (rows.drop m) :=
  ⟨fun k hk => by
    rw [List.length_drop] at hk
    obtain ⟨b', o', ak, ck, h1, h2, h3, h4⟩ := r.row (m + k) (by omega)
    injection h1 with h1
    injection h1 with e1 e2 _
    subst e1; subst e2
    rw [rat_drop]
    exact ⟨b, o + m, ak, ck, rfl, h2, by rw [Nat.add_assoc]; exact h3, h4⟩, by have := r.room; rw [List.length_drop]; omega, fun e => by cases e⟩

/-- all rows fit, and none is too long -/
def FitsR (rows : List (List Int)) : Prop := ∀ k, k < rows.length → Fits (rat rows k) ∧ (rat rows k).length ≤ 17592186044000
theorem FitsR.take {rows : List (List Int)} (h : FitsR rows) (m : Nat) : FitsR (rows.take m) := fun k hk => by
  rw [List.length_take] at hk
  rw [rat_take (by omega)]
  exact h k (by omega)
theorem FitsR.drop {rows : List (List Int)} (h : FitsR rows) (m : Nat) : FitsR (rows.drop m) := fun k hk => by
  rw [List.length_drop] at hk
  rw [rat_drop]
  exact h (m + k) (by omega)

end Go.Proofs.YtmmgkdcojkmlcaaGreatDoor

namespace Go.Proofs.YtmmgkdcojkmlcaaGreatDoor
open Go.RowKit

/-! ## places ascending, each once -/
/-- may be the next -/
def Cand (os : List Int) (x : Int) : Prop := ∀ y, y ∈ os → y < x
/-- the least that may be next, of the first k -/
def BestIs (ps os : List Int) (k : Nat) (v : Value) : Prop :=
  (v = .int .i64 (-1) ∧ ∀ j, j < k → ¬ Cand os (zat ps j)) ∨ (∃ m : Nat, v = .int .i64 m ∧ m < k ∧ Cand os (zat ps m) ∧ ∀ j, j < k → Cand os (zat ps j) → zat ps m ≤ zat ps j)
theorem BestIs.first {ps os : List Int} {k : Nat} (h : BestIs ps os k (.int .i64 (-1))) (hc : Cand os (zat ps k)) : BestIs ps os (k + 1) (.int .i64 k) := by
  rcases h with ⟨h1, h2⟩ | ⟨m, h1, _⟩
  · exact .inr ⟨k, rfl, by omega, hc, fun j hj hj2 => by
      by_cases e : j = k
      · subst e; exact Int.le_refl _
      · exact absurd hj2 (h2 j (by omega))⟩
  · injection h1 with _ h1; omega
theorem BestIs.less {ps os : List Int} {k m : Nat} (h : BestIs ps os k (.int .i64 m)) (hc : Cand os (zat ps k)) (hl : zat ps k < zat ps m) : BestIs ps os (k + 1) (.int .i64 k) := by
  rcases h with ⟨h1, _⟩ | ⟨m', h1, h2, h3, h4⟩
  · injection h1 with _ h1; omega
  · injection h1 with _ h1
    obtain rfl : m = m' := by omega
    exact .inr ⟨k, rfl, by omega, hc, fun j hj hj2 => by
      by_cases e : j = k
      · subst e; exact Int.le_refl _
      · have := h4 j (by omega) hj2; omega⟩
theorem BestIs.more {ps os : List Int} {k m : Nat} (h : BestIs ps os k (.int .i64 m)) (hl : ¬ zat ps k < zat ps m) : BestIs ps os (k + 1) (.int .i64 m) := by
  rcases h with ⟨h1, _⟩ | ⟨m', h1, h2, h3, h4⟩
  · injection h1 with _ h1; omega
  · injection h1 with _ h1
    obtain rfl : m = m' := by omega
    exact .inr ⟨m, rfl, by omega, h3, fun j hj hj2 => by
      by_cases e : j = k
      · subst e; omega
      · exact h4 j (by omega) hj2⟩

end Go.Proofs.YtmmgkdcojkmlcaaGreatDoor
