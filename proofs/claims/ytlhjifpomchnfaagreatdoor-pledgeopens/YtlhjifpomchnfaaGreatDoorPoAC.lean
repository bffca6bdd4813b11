/- What package poly's slopes and addWithoutRoot answer; plain facts on the polynomial through points. slices.Sort and slices.Compact at lists of numbers, by the library's own contracts: laid for this program. attestref1.Unlike: whether all of a list are unlike, as elements. areUnlike: sorted and compacted as long as before if and only if no two are the same element. slices.Backward over a list of numbers, by its own text: what comes round by round, from the end of the list on. What the field's method Invs answers: a new list, what makes 1 of each number of the given list; nothing that was there has turned. -/
import Derived.Test.YtlhjifpomchnfaaGreatDoorPoAB
import Derived.Test.YtlhjifpomchnfaaGreatDoorPls
import Derived.Shelf.Sort.Plain
import Derived.Shelf.Slices.CompactI
import Derived.Test.YtlhjifpomchnfaaGreatDoorProg
import Derived.Deep.QuietTactic
import Derived.BigQuiet
import Derived.Sort.OwnSortedInts
import Derived.RangeFuncNested
import Derived.RangeFuncBound
import Derived.RangeFuncCalls
import Derived.RangeFuncLeaves
import Derived.RangeFuncBox
import Derived.RangeFuncWrites
import Derived.Shelf.Abstract
import Derived.WalkKit
import Derived.OwnWalkIn
import Derived.TacticsInMore
import Derived.LoopNIn
import Derived.LoopIn
import Derived.Test.YtlhjifpomchnfaaGreatDoorFld
import Derived.Deep.OwnRows
import Derived.Shelf.RegionOpen
import Derived.RegionIn
namespace Go.Proofs.YtlhjifpomchnfaaGreatDoor
open Go.RowKit

theorem ps_more' {p : Nat} {f : Nat → Int} (x : Int) (n m : Nat) (hnm : n ≤ m) (h : ∀ j, n ≤ j → j < m → (p : Int) ∣ f j) : (p : Int) ∣ Pol.ps f x m - Pol.ps f x n := by
  induction m with
  | zero => obtain rfl : n = 0 := by omega
            simp
  | succ m ih =>
    by_cases e : n = m + 1
    · subst e; simp
    · have := Int.dvd_add (ih (by omega) (fun j h1 h2 => h j h1 (by omega))) (Int.dvd_mul_of_dvd_left (c := x ^ m) (h m (by omega) (by omega)))
      simp only [Pol.ps]
      rwa [show Pol.ps f x m - Pol.ps f x n + f m * x ^ m = Pol.ps f x m + f m * x ^ m - Pol.ps f x n from by omega] at this

theorem evz_mk {p : Nat} (h3 : 3 ≤ p) (F : Nat → Int) (N : Nat) (x : Int) : evz p (Pol.mk p F N) x = Pol.ps F x N % (p : Int) := by
  unfold evz
  rw [Pol.mk_length]
  refine (Pol.emod_eq_iff (by omega)).2 ?_
  have h1 : (p : Int) ∣ Pol.ps (zat (Pol.mk p F N)) x (Pol.tp p F N) - Pol.ps F x (Pol.tp p F N) := Pol.ps_congr x _ (fun j hj => by
    rw [show zat (Pol.mk p F N) j = (Pol.mk p F N).getD j 0 from rfl, Pol.mk_at p F N j hj]
    exact Pol.emod_dvd p _)
  have h2 := ps_more' (p := p) (f := F) x (Pol.tp p F N) N (Pol.tp_le p F N) (fun j h1 h2 => Pol.emod_zero_iff.1 (Pol.tp_behind p F N j h1 h2))
  have := Int.dvd_sub h1 h2
  rwa [show ∀ a b c : Int, a - b - (c - b) = a - c from fun a b c => by omega] at this

/-- the list of the product without x - xs[k], of the first i -/
def vskl (p : Nat) (xs : List Int) (k i : Nat) : List Int := Pol.mk p (Pol.vsk (zat xs) k i) (i + 1)

/-- what comes of dividing by x - root, from the last place down -/
def sd (p : Nat) (zs : List Int) (root : Int) (n : Nat) : Nat → Int
  | 0 => 0
  | i + 1 => (zat zs (n - i) + sd p zs root n i * root % (p : Int)) % (p : Int)
end Go.Proofs.YtlhjifpomchnfaaGreatDoor

namespace Go.Proofs
open Go.Shelf

end Go.Proofs

namespace Go.Proofs.YtlhjifpomchnfaaGreatDoor
open Go.RowKit

end Go.Proofs.YtlhjifpomchnfaaGreatDoor

namespace Go.Proofs.YtlhjifpomchnfaaGreatDoor
open Go.RowKit Go.Sort

end Go.Proofs.YtlhjifpomchnfaaGreatDoor

namespace Go.Proofs.YtlhjifpomchnfaaGreatDoor
open Go.RowKit Go.Shelf

attribute [local go_sem] Oper.semAt_some

/-- what has come when k rounds are over -/
def upto {α : Type} (f : Nat → α) (k : Nat) : List α := (List.range k).map f
/-- what a round keeps: all below n0, and the box of the list -/
def KeepsB (n0 Bs : Nat) (A B : World) : Prop := Below n0 A B ∧ B.cell? ⟨Bs, 0, none⟩ = A.cell? ⟨Bs, 0, none⟩
theorem KeepsB.refl (n0 Bs : Nat) (A : World) : KeepsB n0 Bs A A := ⟨Below.refl _ _, rfl⟩
theorem KeepsB.trans {n0 Bs : Nat} {A B C : World} (h : KeepsB n0 Bs A B) (k : KeepsB n0 Bs B C) : KeepsB n0 Bs A C := ⟨h.1.trans k.1, k.2.trans h.2⟩

end Go.Proofs.YtlhjifpomchnfaaGreatDoor

namespace Go.Proofs.YtlhjifpomchnfaaGreatDoor
open Go.RowKit Go.Shelf

attribute [local go_sem] Oper.semAt_some

/-- the product of all of a list that are not 0, as elements -/
def prz (p : Nat) (l : List Int) : Nat := l.foldl (fun acc z => if z % (p : Int) = 0 then acc else acc * el p z % p) 1

theorem prz_snoc (p : Nat) (l : List Int) (z : Int) : prz p (l ++ [z]) = if z % (p : Int) = 0 then prz p l else prz p l * el p z % p := by simp [prz]

theorem el_pos {p : Nat} {z : Int} (h3 : 3 ≤ p) (h : z % (p : Int) ≠ 0) : 0 < el p z := by
  have := (emod_bounds z p h3).1; unfold el; omega

/-- the product of those ahead of a place -/
def pkI (p : Nat) (zs : List Int) (k : Nat) : Nat := prz p (zs.take k)

theorem pkI_succ (p : Nat) (zs : List Int) (k : Nat) (h : k < zs.length) : pkI p zs (k + 1) = if zat zs k % (p : Int) = 0 then pkI p zs k else pkI p zs k * el p (zat zs k) % p := by
  unfold pkI
  rw [List.take_succ_eq_append_getElem h, prz_snoc]; simp [h, zat]

theorem inv_one {p : Nat} (hp : Num.Prime p) (h3 : 3 ≤ p) {z : Int} (h : z % (p : Int) ≠ 0) : invn p z * el p z % p = 1 := by
  have h1 := el_pos h3 h
  have h2 := el_lt p z h3
  unfold invn
  have : el p z = Num.pwm p (el p z) 1 := (Num.pwm_one p _ h2).symm
  rw [show Num.pwm p (el p z) (p - 2) * el p z = Num.pwm p (el p z) (p - 2) * Num.pwm p (el p z) 1 from by rw [← this], Num.pwm_add, show p - 2 + 1 = p - 1 from by omega]
  exact Num.pwm_fermat hp h1 h2

/-- what makes 1 of an element is one alone -/
theorem inv_unique {p x y e : Nat} (hp : Num.Prime p) (hx : x < p) (hy : y < p) (he : ¬ p ∣ e) (h1 : x * e % p = 1) (h2 : y * e % p = 1) : x = y := by
  have : e * x % p = e * y % p := by rw [Nat.mul_comm, h1, Nat.mul_comm, h2]
  have := Num.cancel hp he this
  rwa [Nat.mod_eq_of_lt hx, Nat.mod_eq_of_lt hy] at this

/-- what is known of the new list and of the inverse while the last n - i are done -/
structure IG (p : Nat) (zs : List Int) (i : Nat) (o : Nat → Nat) (v : Nat) : Prop where
  ahead : ∀ j, j < i → o j = pkI p zs j
  behind : ∀ j, i ≤ j → j < zs.length → o j = invn p (zat zs j)
  one : v * pkI p zs i % p = 1

/-- one place turned -/
def updI (o : Nat → Nat) (i x : Nat) : Nat → Nat := fun j => if j = i then x else o j

theorem IG.take {p : Nat} {zs : List Int} {i : Nat} {o : Nat → Nat} {v : Nat} (hp : Num.Prime p) (h3 : 3 ≤ p) (h : IG p zs (i + 1) o v) (hi : i < zs.length) (hz : zat zs i % (p : Int) ≠ 0) :
    IG p zs i (updI o i (o i * v % p)) (v * el p (zat zs i) % p) := by
  have e := pkI_succ p zs i hi
  rw [if_neg hz] at e
  have hone := h.one
  rw [e] at hone
  have hoi := h.ahead i (by omega)
  refine ⟨fun j hj => ?_, fun j h1 h2 => ?_, ?_⟩
  · unfold updI; rw [if_neg (by omega)]; exact h.ahead j (by omega)
  · unfold updI
    by_cases hji : j = i
    · rw [if_pos hji, hji]
      refine inv_unique hp (Nat.mod_lt _ (by omega)) (invn_lt p _ h3) (Num.not_dvd_lt (el_pos h3 hz) (el_lt p _ h3)) ?_ (inv_one hp h3 hz)
      rw [hoi, Nat.mod_mul_mod, show pkI p zs i * v * el p (zat zs i) = v * (pkI p zs i * el p (zat zs i)) from by grind, ← Nat.mul_mod_mod]
      exact hone
    · rw [if_neg hji]; exact h.behind j (by omega) h2
  · rw [Nat.mod_mul_mod, show v * el p (zat zs i) * pkI p zs i = v * (pkI p zs i * el p (zat zs i)) from by grind, ← Nat.mul_mod_mod]
    exact hone

end Go.Proofs.YtlhjifpomchnfaaGreatDoor
