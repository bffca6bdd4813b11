
import Derived.Test.YtjlngcmkgkiplaaGreatDoorWcAH
import Derived.Defers
import Derived.Recover
import Derived.Maps.RangeWalk
import Derived.Shelf.SlSortCmp.WholeK
import Derived.Lib.Small
import Derived.Test.YtjlngcmkgkiplaaGreatDoorWcAA
import Derived.Shelf.SlSortCmp.NoneTotal
import Derived.Test.YtjlngcmkgkiplaaGreatDoorPlain
import Derived.Test.YtjlngcmkgkiplaaGreatDoorFld
import Derived.Deep.QuietTactic
import Derived.BigQuiet
import Derived.Laws.AppendOwnNone
import Derived.Deep.RegionHeld3
set_option maxRecDepth 1000000
set_option maxHeartbeats 8000000
namespace Go.Proofs.YtjlngcmkgkiplaaGreatDoor
open Go.RowKit Go.Maps
def cf2 (x y : Int × Int) : Int := Lib.compareInt x.1 y.1
theorem lt2 (x y : Int × Int) : ltOf cf2 x y = decide (x.1 < y.1) := by
 unfold ltOf cf2 Lib.compareInt
 by_cases h1 : x.1 < y.1
 ·simp [h1]
 ·by_cases h2 : y.1 < x.1 <;> simp [h1, h2]
end Go.Proofs.YtjlngcmkgkiplaaGreatDoor
namespace Go.Proofs.YtjlngcmkgkiplaaGreatDoor.Pol
def pl : List Int -> S
 | [] => one
 | r :: l => mul (pl l) (lin r)
end Go.Proofs.YtjlngcmkgkiplaaGreatDoor.Pol
namespace Go.Proofs.YtjlngcmkgkiplaaGreatDoor
open Go.RowKit
structure LstC (n0 : Nat) (w : World) (a : Option Addr) (cap : Nat) (L : List (Int × Int)) : Prop where
 row : ∀ k, k < L.length -> ∃ b o, a = some ⟨b, o, none⟩ /\ b < n0 /\ w.cell? ⟨b, o + k * 2, none⟩ = some (.int .i64 (cat L k).1) /\ w.cell? ⟨b, o + k * 2 + 1, none⟩ = some (.int .i64 (cat L k).2)
 room : L.length <= cap
 nil : a = none -> cap = 0
theorem LstC.below {n0 : Nat} {A B : World} {a : Option Addr} {cap : Nat} {L : List (Int × Int)} (r : LstC n0 A a cap L) (h : Below n0 A B) : LstC n0 B a cap L :=
 ⟨fun k hk => by
  obtain ⟨b, o, h1, h2, h3, h4⟩ := r.row k hk
  exact ⟨b, o, h1, h2, (h.cell (p := ⟨b, o + k * 2, none⟩) h2).trans h3, (h.cell (p := ⟨b, o + k * 2 + 1, none⟩) h2).trans h4⟩, r.room, r.nil⟩
def CelB (L : List (Int × Int)) : Prop := ∀ k, k < L.length -> (-9223372036854775808 <= (cat L k).1 /\ (cat L k).1 <= 9223372036854775807) /\ (-9223372036854775808 <= (cat L k).2 /\ (cat L k).2 <= 9223372036854775807)
theorem lstC_of_owns {w : World} {base : Nat} {v : Value} {L : List (Int × Int)} (h : CelR base w v L) : ∃ a cap, v = .slice a L.length cap /\ LstC w.heap.size w a cap L := by
 have h' : w.ownsRow base 161 2 v L.length (celv L) := h
 rcases h.2 with ⟨h1, h2⟩ | ⟨g, cap, cur, hv, hbs, hg, hn, _⟩
 ·refine ⟨none, 0, by rw [h1, h2], ⟨fun k hk => by omega, by omega, fun _ => rfl⟩⟩
 ·refine ⟨some ⟨g, 0, none⟩, cap, hv, ⟨fun k hk => ⟨g, 0, rfl, (Array.getElem?_eq_some_iff.1 hg).1, ?_⟩, by omega, fun e => by cases e⟩⟩
  have hc : ∀ m x, (celv L)[m]? = some (.int .i64 x) -> w.cell? ⟨g, m, none⟩ = some (.int .i64 x) := fun m x hx => by
   have := h'.cells (g := g) (by rw [hv]; rfl) m _ hx
   have hadd : (⟨g, 0, none⟩ : Addr).add m = ⟨g, m, none⟩ := by unfold Addr.add; split <;> simp_all
   rw [hadd] at this
   exact this
  obtain ⟨e0, e1⟩ := celv_at L k hk
  simp only [Nat.zero_add]
  exact ⟨hc _ _ e0, hc _ _ e1⟩
def nb (p : Nat) (y : Int) (c : Int × Int) : Int := (c.1 + c.2 * y) % (p : Int)
theorem nb_prog (p : Nat) (y : Int) (c : Int × Int) : (c.1 + y * c.2 % (p : Int)) % (p : Int) = nb p y c := by
 unfold nb; rw [Int.add_emod, Int.emod_emod_of_dvd _ (Int.dvd_refl _), <- Int.add_emod, Int.mul_comm]
theorem nb_ref (p : Nat) (y : Int) (c : Int × Int) : (c.2 * y % (p : Int) + c.1) % (p : Int) = nb p y c := by
 unfold nb; rw [Int.add_emod, Int.emod_emod_of_dvd _ (Int.dvd_refl _), <- Int.add_emod, Int.add_comm]
def prd (p : Nat) (x y : Int) (L : List (Int × Int)) : Nat -> Int
 | 0 => 1
 | k + 1 => prd p x y L k * ((x - nb p y (cat L k)) % (p : Int)) % (p : Int)
theorem prd_bd {p : Nat} (h3 : 3 <= p) (x y : Int) (L : List (Int × Int)) : ∀ k, 0 <= prd p x y L k /\ prd p x y L k < p
 | 0 => ⟨(by show (0 : Int) <= 1; decide), (by show (1 : Int) < p; omega)⟩
 | k + 1 => emod_bounds _ p h3
theorem nb_bd {p : Nat} (h3 : 3 <= p) (y : Int) (c : Int × Int) : 0 <= nb p y c /\ nb p y c < p := emod_bounds _ p h3
def cle (a b : Int × Int) : Prop := a.1 < b.1 ∨ (a.1 = b.1 /\ a.2 <= b.2)
instance (a b : Int × Int) : Decidable (cle a b) := inferInstanceAs (Decidable (_ ∨ _))
structure CRow (g : Nat) (w : World) (l : List (Int × Int)) : Prop where
 lt : g < w.heap.size
 cells : ∀ k, k < l.length -> w.cell? ⟨g, k * 2, none⟩ = some (.int .i64 (cat l k).1) /\ w.cell? ⟨g, k * 2 + 1, none⟩ = some (.int .i64 (cat l k).2)
 soft : ∀ j, w.frozen? ⟨g, j, none⟩ = false
theorem CRow.block {g : Nat} {w w' : World} {l : List (Int × Int)} (h : CRow g w l) (e : w'.heap[g]? = w.heap[g]?) : CRow g w' l := by
 have hl : g < w'.heap.size := by
  have := h.lt
  rcases Nat.lt_or_ge g w'.heap.size with g1 | g1
  ·exact g1
  ·rw [Array.getElem?_eq_none g1, Array.getElem?_eq_getElem this] at e; cases e
 exact ⟨hl, fun k hk => ⟨(World.cell?_of_block (w := w) (a := ⟨g, k * 2, none⟩) e).trans (h.cells k hk).1, (World.cell?_of_block (w := w) (a := ⟨g, k * 2 + 1, none⟩) e).trans (h.cells k hk).2⟩, fun j => (World.frozen?_of_block (w := w) (a := ⟨g, j, none⟩) e).trans (h.soft j)⟩
theorem cat_set {l : List (Int × Int)} {k j : Nat} {c : Int × Int} (hk : k < l.length) : cat (l.set k c) j = if j = k then c else cat l j := by
 unfold cat
 rw [List.getD_eq_getElem?_getD, List.getElem?_set]
 by_cases h : k = j
 ·subst h; simp [hk]
 ·rw [if_neg h, if_neg (fun e => h e.symm), List.getD_eq_getElem?_getD]
theorem CRow.set {g : Nat} {w : World} {l : List (Int × Int)} (h : CRow g w l) {k : Nat} (c : Int × Int) (hk : k < l.length) : CRow g ((w.setCell ⟨g, k * 2, none⟩ (.int .i64 c.1)).setCell ⟨g, k * 2 + 1, none⟩ (.int .i64 c.2)) (l.set k c) := by
 refine ⟨by simpa using h.lt, fun j hj => ?_, fun j => by rw [World.frozen?_setCell, World.frozen?_setCell]; exact h.soft j⟩
 rw [List.length_set] at hj
 have hc := h.cells j hj
 rw [cat_set hk]
 have ho : ∀ (W : World) (u v : Nat) (x : Value), u ≠ v -> (W.setCell ⟨g, u, none⟩ x).cell? ⟨g, v, none⟩ = W.cell? ⟨g, v, none⟩ := fun W u v x huv => World.cell?_setCell_other _ _ _ _ (by intro e; injection e with _ h2 _; omega)
 by_cases e : j = k
 ·subst e
  rw [if_pos rfl]
  constructor
  ·rw [ho _ _ _ _ (by omega)]
   exact World.cell?_setCell_same _ _ _ hc.1
  ·exact World.cell?_setCell_same _ _ _ ((ho _ _ _ _ (by omega)).trans hc.2)
 ·rw [if_neg e]
  constructor
  ·rw [ho _ _ _ _ (by omega), ho _ _ _ _ (by omega)]; exact hc.1
  ·rw [ho _ _ _ _ (by omega), ho _ _ _ _ (by omega)]; exact hc.2
theorem CRow.lst {g cap : Nat} {w : World} {l : List (Int × Int)} (h : CRow g w l) (hc : l.length <= cap) : LstC w.heap.size w (some ⟨g, 0, none⟩) cap l :=
 ⟨fun k hk => ⟨g, 0, rfl, h.lt, by rw [Nat.zero_add]; exact (h.cells k hk).1, by rw [Nat.zero_add]; exact (h.cells k hk).2⟩, hc, fun e => by cases e⟩
theorem crow_of_owns {w : World} {base : Nat} {v : Value} {L : List (Int × Int)} (h : CelR base w v L) : (v = .slice none 0 0 /\ L = []) ∨ ∃ g cap, v = .slice (some ⟨g, 0, none⟩) L.length cap /\ base <= g /\ L.length <= cap /\ CRow g w L := by
 obtain ⟨a, c, hv, hl⟩ := lstC_of_owns h
 rcases h.2 with ⟨h1, h2⟩ | ⟨g, cap, cur, hv', hbs, hg, hn, _⟩
 ·exact .inl ⟨h1, List.length_eq_zero_iff.1 h2⟩
 ·right
  refine ⟨g, cap, hv', hbs, hn, (Array.getElem?_eq_some_iff.1 hg).1, fun k hk => ?_, fun j => by simp [World.frozen?, hg]⟩
  obtain ⟨b, o, e1, _, c0, c1⟩ := hl.row k hk
  rw [hv] at hv'
  injection hv' with e2
  rw [e1] at e2
  injection e2 with e2
  injection e2 with e2 e3
  subst e2 e3
  rw [Nat.zero_add] at c0 c1
  exact ⟨c0, c1⟩
end Go.Proofs.YtjlngcmkgkiplaaGreatDoor
