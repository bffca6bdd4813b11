/- attestref3, the digests: common, Power, Constant, Mix, Permute, Pad, Hash; attestref1.All as a list of its own. attestref3, the digests: Permute, Pad, Hash; attestref1.Same; attestlaw3.differ. attestref3, the digests: Hash; attestref1.Same; attestlaw3.differ. attestref1.Same; attestlaw3.differ. Plain facts on digests: unlike lists have unlike Pads; stirring is undone in one way alone. attestref3, the trees: Leaf, Node, Left, Root. attestref3, the trees: Some, Once. -/
import Derived.Test.YtlhjifpomchnfaaGreatDoorPlain
import Derived.Test.YtlhjifpomchnfaaGreatDoorPls
import Derived.Test.YtlhjifpomchnfaaGreatDoorDoms
import Derived.Deep.QuietTactic
import Derived.StillTailTactics
import Derived.Laws.AppendOwnNone
namespace Go.Proofs.YtlhjifpomchnfaaGreatDoor
open Go.RowKit


/-! ## common, Power -/
/-! ## Constant -/
def cst (q : Nat) (r i : Int) : Int := if r < 0 ∨ 7 < r ∨ i < 0 ∨ 7 < i then 0 else ((8 * r + i + 1) ^ 5 + 3) % (q : Int)
/-! ## Mix -/
def mxs (q : Nat) (f : Nat → Int) (i k : Nat) : Int := Dom.sm (fun j => f j * (invn q ((i + j + 8 : Nat) : Int) : Int) % (q : Int)) k % (q : Int)
def mx (q : Nat) (f : Nat → Int) (i : Nat) : Int := mxs q f i 8
end Go.Proofs.YtlhjifpomchnfaaGreatDoor

namespace Go.Proofs.YtlhjifpomchnfaaGreatDoor
open Go.RowKit

/-! ## Permute -/
/-- a state after k rounds -/
def stir (q n : Nat) (f : Nat → Int) : Nat → Nat → Int
  | 0, j => f j % (q : Int)
  | k + 1, j => mx q (fun i => (stir q n f k i + cst q k i) ^ n % (q : Int)) j
theorem mx_bounds (q : Nat) (f : Nat → Int) (j : Nat) (h3 : 3 ≤ q) : 0 ≤ mx q f j ∧ mx q f j < q := emod_bounds _ q h3
theorem stir_bounds (q n : Nat) (f : Nat → Int) (k j : Nat) (h3 : 3 ≤ q) : 0 ≤ stir q n f k j ∧ stir q n f k j < q := by
  cases k with
  | zero => exact emod_bounds _ q h3
  | succ k => exact mx_bounds _ _ _ h3

/-! ## Pad -/
def pdf (q : Nat) (f : Nat → Int) (n j : Nat) : Int := if j < n then f j % (q : Int) else if j = n then 1 else 0
/-- how long a slice is -/
def lenV : Value → Nat
  | .slice _ n _ => n
  | _ => 0
end Go.Proofs.YtlhjifpomchnfaaGreatDoor

namespace Go.Proofs.YtlhjifpomchnfaaGreatDoor
open Go.RowKit

/-- four of a list are added to a state's first four places -/
def soak (q : Nat) (s P : Nat → Int) (t : Nat) (j : Nat) : Int := if j < 4 then (s j + P (4 * t + j)) % (q : Int) else s j
/-- the state behind t fours of a list -/
def hst (q n : Nat) (P : Nat → Int) : Nat → Nat → Int
  | 0, _ => 0
  | t + 1, j => stir q n (soak q (hst q n P t) P t) 8 j
theorem hst_bounds (q n : Nat) (P : Nat → Int) (t j : Nat) (h3 : 3 ≤ q) : 0 ≤ hst q n P t j ∧ hst q n P t j < q := by
  cases t with
  | zero => exact ⟨Int.le_refl _, by show (0 : Int) < q; omega⟩
  | succ t => exact stir_bounds _ _ _ _ _ h3
end Go.Proofs.YtlhjifpomchnfaaGreatDoor

namespace Go.Proofs.YtlhjifpomchnfaaGreatDoor
open Go.RowKit

end Go.Proofs.YtlhjifpomchnfaaGreatDoor

namespace Go.Proofs.YtlhjifpomchnfaaGreatDoor
open Go.RowKit

/-! ## powers that are undone -/
/-! ## stirring -/
end Go.Proofs.YtlhjifpomchnfaaGreatDoor

namespace Go.Proofs.YtlhjifpomchnfaaGreatDoor
open Go.RowKit

/-- the digest of a list -/
def digl (q n : Nat) (l : List Int) : List Int := ls (hst q n (pdf q (zat l) l.length) (l.length / 4 + 1)) 4
theorem digl_len (q n : Nat) (l : List Int) : (digl q n l).length = 4 := ls_len _ _
/-! ## Left -/
def lftA : Nat → Nat → Nat → Nat
  | 0, m, _ => m
  | k + 1, m, n => if m * 2 < n then lftA k (m * 2) n else m
/-- how many of n rows are in the left group -/
def lft (n : Nat) : Nat := lftA n 1 n
theorem lftA_spec : ∀ (k m n : Nat), 1 ≤ m → n ≤ m + k → n ≤ 2 * lftA k m n ∧ m ≤ lftA k m n ∧ (lftA k m n = m ∨ lftA k m n < n)
  | 0, m, n, h1, h2 => ⟨by simp only [lftA]; omega, Nat.le_refl _, Or.inl rfl⟩
  | k + 1, m, n, h1, h2 => by
    simp only [lftA]
    by_cases h : m * 2 < n
    · rw [if_pos h]
      obtain ⟨a, b, c⟩ := lftA_spec k (m * 2) n (by omega) (by omega)
      exact ⟨a, by omega, Or.inr (by omega)⟩
    · rw [if_neg h]
      exact ⟨by omega, Nat.le_refl _, Or.inl rfl⟩
theorem lft_spec (n : Nat) : n ≤ 2 * lft n ∧ 1 ≤ lft n ∧ (2 ≤ n → lft n < n) := by
  obtain ⟨a, b, c⟩ := lftA_spec n 1 n (Nat.le_refl _) (by omega)
  exact ⟨a, b, fun h => by unfold lft; omega⟩

/-! ## rows of rows -/
def rat (rows : List (List Int)) (k : Nat) : List Int := rows.getD k []
/-- rows that can be read, below n0, with their room -/
structure LstR (n0 : Nat) (w : World) (a : Option Addr) (cap : Nat) (rows : List (List Int)) : Prop where
  row : ∀ k, k < rows.length → ∃ b o ak ck, a = some ⟨b, o, none⟩ ∧ b < n0 ∧ w.cell? ⟨b, o + k, none⟩ = some (.slice ak (rat rows k).length ck) ∧ Lst n0 w ak ck (rat rows k)
  room : rows.length ≤ cap
  nil : a = none → cap = 0

theorem LstR.below {n0 : Nat} {A B : World} {a : Option Addr} {cap : Nat} {rows : List (List Int)} (h : Below n0 A B) (r : LstR n0 A a cap rows) : LstR n0 B a cap rows :=
  ⟨fun k hk => by
    obtain ⟨b, o, ak, ck, h1, h2, h3, h4⟩ := r.row k hk
    exact ⟨b, o, ak, ck, h1, h2, (h.cell (p := ⟨b, o + k, none⟩) h2).trans h3, h4.below h⟩, r.room, r.nil⟩
theorem LstR.mono {n0 n1 : Nat} {A : World} {a : Option Addr} {cap : Nat} {rows : List (List Int)} (h : n0 ≤ n1) (r : LstR n0 A a cap rows) : LstR n1 A a cap rows :=
  ⟨fun k hk => by
    obtain ⟨b, o, ak, ck, h1, h2, h3, h4⟩ := r.row k hk
    exact ⟨b, o, ak, ck, h1, by omega, h3, h4.mono h⟩, r.room, r.nil⟩
theorem rat_take {rows : List (List Int)} {m k : Nat} (h : k < m) : rat (rows.take m) k = rat rows k := by
  unfold rat
  simp [h]
theorem LstR.take {n0 : Nat} {w : World} {a : Option Addr} {cap : Nat} {rows : List (List Int)} (r : LstR n0 w a cap rows) (m : Nat) : LstR n0 w a cap (rows.take m) :=
  ⟨fun k hk => by
    rw [List.length_take] at hk
    rw [rat_take (by omega)]
    exact r.row k (by omega), by have := r.room; rw [List.length_take]; omega, r.nil⟩
/-- all rows fit, and none is too long -/
def FitsR (rows : List (List Int)) : Prop := ∀ k, k < rows.length → Fits (rat rows k) ∧ (rat rows k).length ≤ 17592186044000
theorem FitsR.take {rows : List (List Int)} (h : FitsR rows) (m : Nat) : FitsR (rows.take m) := fun k hk => by
  rw [List.length_take] at hk
  rw [rat_take (by omega)]
  exact h k (by omega)
end Go.Proofs.YtlhjifpomchnfaaGreatDoor

namespace Go.Proofs.YtlhjifpomchnfaaGreatDoor
open Go.RowKit

/-- is one of the places from a to b - 1? -/
def smb (ps : List Int) (a b : Int) : Bool := ps.any (fun x => decide (a ≤ x ∧ x < b))
theorem smb_iff {ps : List Int} {a b : Int} : smb ps a b = true ↔ ∃ j, j < ps.length ∧ a ≤ zat ps j ∧ zat ps j < b := by
  unfold smb
  rw [List.any_eq_true]
  constructor
  · rintro ⟨x, hx, h⟩
    obtain ⟨j, hj, rfl⟩ := List.getElem_of_mem hx
    exact ⟨j, hj, by simpa [zat, hj] using h⟩
  · rintro ⟨j, hj, h⟩
    exact ⟨ps[j], List.getElem_mem hj, by simpa [zat, hj] using h⟩
/-! ## places ascending, each once -/
/-- may be the next -/
def Cand (os : List Int) (x : Int) : Prop := ∀ y, y ∈ os → y < x
/-- the least that may be next, of the first k -/
def BestIs (ps os : List Int) (k : Nat) (v : Value) : Prop :=
  (v = .int .i64 (-1) ∧ ∀ j, j < k → ¬ Cand os (zat ps j)) ∨ (∃ m : Nat, v = .int .i64 m ∧ m < k ∧ Cand os (zat ps m) ∧ ∀ j, j < k → Cand os (zat ps j) → zat ps m ≤ zat ps j)
theorem BestIs.first {ps os : List Int} {k : Nat} (h : BestIs ps os k (.int .i64 (-1))) (hc : Cand os (zat ps k)) : BestIs ps os (k + 1) (.int .i64 k) := by
  rcases h with ⟨h1, h2⟩ | ⟨m, h1, _⟩
  · exact .inr ⟨k, rfl, by omega, hc, fun j hj hj2 => by
      by_cases e : j = k
      · subst e; exact Int.le_refl _
      · exact absurd hj2 (h2 j (by omega))⟩
  · injection h1 with _ h1; omega
theorem BestIs.less {ps os : List Int} {k m : Nat} (h : BestIs ps os k (.int .i64 m)) (hc : Cand os (zat ps k)) (hl : zat ps k < zat ps m) : BestIs ps os (k + 1) (.int .i64 k) := by
  rcases h with ⟨h1, _⟩ | ⟨m', h1, h2, h3, h4⟩
  · injection h1 with _ h1; omega
  · injection h1 with _ h1
    obtain rfl : m = m' := by omega
    exact .inr ⟨k, rfl, by omega, hc, fun j hj hj2 => by
      by_cases e : j = k
      · subst e; exact Int.le_refl _
      · have := h4 j (by omega) hj2; omega⟩
theorem BestIs.more {ps os : List Int} {k m : Nat} (h : BestIs ps os k (.int .i64 m)) (hl : ¬ zat ps k < zat ps m) : BestIs ps os (k + 1) (.int .i64 m) := by
  rcases h with ⟨h1, _⟩ | ⟨m', h1, h2, h3, h4⟩
  · injection h1 with _ h1; omega
  · injection h1 with _ h1
    obtain rfl : m = m' := by omega
    exact .inr ⟨m, rfl, by omega, h3, fun j hj hj2 => by
      by_cases e : j = k
      · subst e; omega
      · exact h4 j (by omega) hj2⟩

end Go.Proofs.YtlhjifpomchnfaaGreatDoor
