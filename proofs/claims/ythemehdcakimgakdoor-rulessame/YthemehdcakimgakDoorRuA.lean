/- Lists of cells that are read; what pairs come to, and their products. -/
import Derived.Test.YthemehdcakimgakDoorMacA
import Derived.Test.YthemehdcakimgakDoorRuP
import Derived.Test.YthemehdcakimgakDoorFld
import Derived.Deep.QuietTactic
import Derived.BigQuiet
namespace Go.Proofs.YthemehdcakimgakDoor
open Go.RowKit

/-- a list of cells that can be read -/
structure LstC (n0 : Nat) (w : World) (a : Option Addr) (cap : Nat) (L : List (Int × Int)) : Prop where
  row : ∀ k, k < L.length → ∃ b o, a = some ⟨b, o, none⟩ ∧ b < n0 ∧ w.cell? ⟨b, o + k * 2, none⟩ = some (.int .i64 (cat L k).1) ∧ w.cell? ⟨b, o + k * 2 + 1, none⟩ = some (.int .i64 (cat L k).2)
  room : L.length ≤ cap
  nil : a = none → cap = 0
theorem LstC.below {n0 : Nat} {A B : World} {a : Option Addr} {cap : Nat} {L : List (Int × Int)} (r : LstC n0 A a cap L) (h : Below n0 A B) : LstC n0 B a cap L :=
  ⟨fun k hk => by
    obtain ⟨b, o, h1, h2, h3, h4⟩ := r.row k hk
    exact ⟨b, o, h1, h2, (h.cell (p := ⟨b, o + k * 2, none⟩) h2).trans h3, (h.cell (p := ⟨b, o + k * 2 + 1, none⟩) h2).trans h4⟩, r.room, r.nil⟩
theorem LstC.mono {n0 n1 : Nat} {A : World} {a : Option Addr} {cap : Nat} {L : List (Int × Int)} (r : LstC n0 A a cap L) (h : n0 ≤ n1) : LstC n1 A a cap L :=
  ⟨fun k hk => by
    obtain ⟨b, o, h1, h2, h3⟩ := r.row k hk
    exact ⟨b, o, h1, by omega, h3⟩, r.room, r.nil⟩
/-- each number of a cell is an int -/
def CelB (L : List (Int × Int)) : Prop := ∀ k, k < L.length → (-9223372036854775808 ≤ (cat L k).1 ∧ (cat L k).1 ≤ 9223372036854775807) ∧ (-9223372036854775808 ≤ (cat L k).2 ∧ (cat L k).2 ≤ 9223372036854775807)
/-- cells of the call's own can be read -/
theorem lstC_of_owns {w : World} {base : Nat} {v : Value} {L : List (Int × Int)} (h : CelR base w v L) : ∃ a cap, v = .slice a L.length cap ∧ LstC w.heap.size w a cap L := by
  have h' : w.ownsRow base 39 2 v L.length (celv L) := h
  rcases h.2 with ⟨h1, h2⟩ | ⟨g, cap, cur, hv, hbs, hg, hn, _⟩
  · refine ⟨none, 0, by rw [h1, h2], ⟨fun k hk => by omega, by omega, fun _ => rfl⟩⟩
  · refine ⟨some ⟨g, 0, none⟩, cap, hv, ⟨fun k hk => ⟨g, 0, rfl, (Array.getElem?_eq_some_iff.1 hg).1, ?_⟩, by omega, fun e => by cases e⟩⟩
    have hc : ∀ m x, (celv L)[m]? = some (.int .i64 x) → w.cell? ⟨g, m, none⟩ = some (.int .i64 x) := fun m x hx => by
      have := h'.cells (g := g) (by rw [hv]; rfl) m _ hx
      have hadd : (⟨g, 0, none⟩ : Addr).add m = ⟨g, m, none⟩ := by unfold Addr.add; split <;> simp_all
      rw [hadd] at this
      exact this
    obtain ⟨e0, e1⟩ := celv_at L k hk
    simp only [Nat.zero_add]
    exact ⟨hc _ _ e0, hc _ _ e1⟩

/-- what a pair comes to with y -/
def nb (p : Nat) (y : Int) (c : Int × Int) : Int := (c.1 + c.2 * y) % (p : Int)
theorem nb_prog (p : Nat) (y : Int) (c : Int × Int) : (c.1 + y * c.2 % (p : Int)) % (p : Int) = nb p y c := by
  unfold nb; rw [Int.add_emod, Int.emod_emod_of_dvd _ (Int.dvd_refl _), ← Int.add_emod, Int.mul_comm]
theorem nb_ref (p : Nat) (y : Int) (c : Int × Int) : (c.2 * y % (p : Int) + c.1) % (p : Int) = nb p y c := by
  unfold nb; rw [Int.add_emod, Int.emod_emod_of_dvd _ (Int.dvd_refl _), ← Int.add_emod, Int.add_comm]
/-- the product, place by place -/
def prd (p : Nat) (x y : Int) (L : List (Int × Int)) : Nat → Int
  | 0 => 1
  | k + 1 => prd p x y L k * ((x - nb p y (cat L k)) % (p : Int)) % (p : Int)
theorem prd_bd {p : Nat} (h3 : 3 ≤ p) (x y : Int) (L : List (Int × Int)) : ∀ k, 0 ≤ prd p x y L k ∧ prd p x y L k < p
  | 0 => ⟨(by show (0 : Int) ≤ 1; decide), (by show (1 : Int) < p; omega)⟩
  | k + 1 => emod_bounds _ p h3
theorem nb_bd {p : Nat} (h3 : 3 ≤ p) (y : Int) (c : Int × Int) : 0 ≤ nb p y c ∧ nb p y c < p := emod_bounds _ p h3
theorem cat_cons (c : Int × Int) (L : List (Int × Int)) (k : Nat) : cat (c :: L) (k + 1) = cat L k := by simp [cat]
theorem prd_app (p : Nat) (x y : Int) (L M : List (Int × Int)) : ∀ k, k ≤ L.length → prd p x y (L ++ M) k = prd p x y L k
  | 0, _ => rfl
  | k + 1, h => by
    have e : cat (L ++ M) k = cat L k := by unfold cat; rw [List.getD_eq_getElem?_getD, List.getD_eq_getElem?_getD, List.getElem?_append_left (by omega)]
    rw [prd, prd, prd_app p x y L M k (by omega), e]
theorem prd_snoc (p : Nat) (x y : Int) (L : List (Int × Int)) (c : Int × Int) : prd p x y (L ++ [c]) (L.length + 1) = prd p x y L L.length * ((x - nb p y c) % (p : Int)) % (p : Int) := by
  have e : cat (L ++ [c]) L.length = c := by simp [cat]
  rw [prd, prd_app p x y L [c] L.length (Nat.le_refl _), e]
theorem take_cat {L : List (Int × Int)} {k : Nat} (h : k < L.length) : L.take (k + 1) = L.take k ++ [cat L k] := by
  rw [List.take_add_one]
  simp [cat, h]
/-- the product is that of the numbers -/
theorem prd_plvk {p : Nat} (h3 : 3 ≤ p) (x y : Int) (L : List (Int × Int)) : ∀ k, k ≤ L.length → prd p x y L k = Pol.plv x (((L.take k).map (nb p y)).reverse) % (p : Int)
  | 0, _ => by simp [prd, Pol.plv]; rw [Int.emod_eq_of_lt (by decide) (by omega)]
  | k + 1, h => by
    rw [take_cat (by omega), prd, prd_plvk h3 x y L k (by omega), List.map_append, List.reverse_append]
    simp only [List.map_cons, List.map_nil, List.reverse_cons, List.reverse_nil, List.nil_append, List.singleton_append]
    rw [Pol.plv, ← Int.mul_emod]
theorem prd_plv {p : Nat} (h3 : 3 ≤ p) (x y : Int) (L : List (Int × Int)) : prd p x y L L.length = Pol.plv x (L.map (nb p y)) % (p : Int) := by
  rw [prd_plvk h3 x y L _ (Nat.le_refl _), List.take_length, Pol.plv_perm (List.reverse_perm _)]

end Go.Proofs.YthemehdcakimgakDoor
