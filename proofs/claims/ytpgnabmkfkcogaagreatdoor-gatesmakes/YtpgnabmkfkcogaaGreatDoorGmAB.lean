/- What package poly's Vanish and its helpers answer. What package poly's slopes and addWithoutRoot answer; plain facts on the polynomial through points. slices.Sort and slices.Compact at lists of numbers, by the library's own contracts: laid for this program. attestref1.Unlike: whether all of a list are unlike, as elements. -/
import Derived.Test.YtpgnabmkfkcogaaGreatDoorGmAA
import Derived.Deep.RegionWith
import Derived.Test.YtpgnabmkfkcogaaGreatDoorPls
import Derived.Shelf.Sort.Plain
import Derived.Shelf.Slices.CompactI
import Derived.Test.YtpgnabmkfkcogaaGreatDoorProg
import Derived.Deep.QuietTactic
import Derived.BigQuiet
namespace Go.Proofs.YtpgnabmkfkcogaaGreatDoor
open Go.RowKit

end Go.Proofs.YtpgnabmkfkcogaaGreatDoor

namespace Go.Proofs.YtpgnabmkfkcogaaGreatDoor
open Go.RowKit

theorem Cells.drewN {g o n : Nat} {f : Nat → Int} {W : World} (h : Cells g o n f W) (k : Nat) : Cells g o n f (W.drewN k) := ⟨h.cells, h.soft⟩

theorem ps_more' {p : Nat} {f : Nat → Int} (x : Int) (n m : Nat) (hnm : n ≤ m) (h : ∀ j, n ≤ j → j < m → (p : Int) ∣ f j) : (p : Int) ∣ Pol.ps f x m - Pol.ps f x n := by
  induction m with
  | zero => obtain rfl : n = 0 := by omega
            simp
  | succ m ih =>
    by_cases e : n = m + 1
    · subst e; simp
    · have := Int.dvd_add (ih (by omega) (fun j h1 h2 => h j h1 (by omega))) (Int.dvd_mul_of_dvd_left (c := x ^ m) (h m (by omega) (by omega)))
      simp only [Pol.ps]
      rwa [show Pol.ps f x m - Pol.ps f x n + f m * x ^ m = Pol.ps f x m + f m * x ^ m - Pol.ps f x n from by omega] at this

theorem evz_mk {p : Nat} (h3 : 3 ≤ p) (F : Nat → Int) (N : Nat) (x : Int) : evz p (Pol.mk p F N) x = Pol.ps F x N % (p : Int) := by
  unfold evz
  rw [Pol.mk_length]
  refine (Pol.emod_eq_iff (by omega)).2 ?_
  have h1 : (p : Int) ∣ Pol.ps (zat (Pol.mk p F N)) x (Pol.tp p F N) - Pol.ps F x (Pol.tp p F N) := Pol.ps_congr x _ (fun j hj => by
    rw [show zat (Pol.mk p F N) j = (Pol.mk p F N).getD j 0 from rfl, Pol.mk_at p F N j hj]
    exact Pol.emod_dvd p _)
  have h2 := ps_more' (p := p) (f := F) x (Pol.tp p F N) N (Pol.tp_le p F N) (fun j h1 h2 => Pol.emod_zero_iff.1 (Pol.tp_behind p F N j h1 h2))
  have := Int.dvd_sub h1 h2
  rwa [show ∀ a b c : Int, a - b - (c - b) = a - c from fun a b c => by omega] at this

/-- the list of the product without x - xs[k], of the first i -/
def vskl (p : Nat) (xs : List Int) (k i : Nat) : List Int := Pol.mk p (Pol.vsk (zat xs) k i) (i + 1)

end Go.Proofs.YtpgnabmkfkcogaaGreatDoor

namespace Go.Proofs
open Go.Shelf

end Go.Proofs

namespace Go.Proofs.YtpgnabmkfkcogaaGreatDoor
open Go.RowKit

end Go.Proofs.YtpgnabmkfkcogaaGreatDoor
