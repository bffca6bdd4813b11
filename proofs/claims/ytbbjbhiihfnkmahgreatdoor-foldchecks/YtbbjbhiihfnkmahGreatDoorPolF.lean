/- What package poly's Vanish and its helpers answer. -/
import Derived.Test.YtbbjbhiihfnkmahGreatDoorPolDiv
import Derived.Deep.RegionWith
namespace Go.Proofs.YtbbjbhiihfnkmahGreatDoor
open Go.RowKit

/-- what stands a place ahead -/
def bef (f : Nat → Int) (i : Nat) : Int := if i = 0 then 0 else f (i - 1)

/-- the last k of the first L places multiplied by x - root -/
def trf (p : Nat) (f : Nat → Int) (x : Int) (L k : Nat) : Nat → Int := fun j => if L - k ≤ j ∧ j < L then (bef f j - f j * x % (p : Int)) % (p : Int) else f j
theorem trf_zero (p : Nat) (f : Nat → Int) (x : Int) (L : Nat) : trf p f x L 0 = f := by
  funext j; unfold trf; rw [if_neg (by omega)]
theorem trf_succ (p : Nat) (f : Nat → Int) (x : Int) (L k : Nat) (hk : k < L) : up (trf p f x L k) (L - 1 - k) ((bef f (L - 1 - k) - f (L - 1 - k) * x % (p : Int)) % (p : Int)) = trf p f x L (k + 1) := by
  funext j; unfold up trf
  by_cases h : j = L - 1 - k
  · rw [if_pos h, if_pos (by omega), h]
  · rw [if_neg h]
    by_cases h2 : L - k ≤ j ∧ j < L
    · rw [if_pos h2, if_pos (by omega)]
    · rw [if_neg h2, if_neg (by omega)]
theorem trf_at (p : Nat) (f : Nat → Int) (x : Int) (L k j : Nat) (h : j < L - k) : trf p f x L k j = f j := by unfold trf; rw [if_neg (by omega)]

/-- the product of x - xs[i] of the first n, modulo p -/
def vn (p : Nat) (xs : List Int) (n : Nat) : Nat → Int := fun j => Pol.van (zat xs) n j % (p : Int)
theorem vn_zero (p : Nat) (xs : List Int) (h3 : 3 ≤ p) : vn p xs 0 = fun j => if j = 0 then 1 else 0 := by
  funext j; unfold vn; simp only [Pol.van, Pol.one]
  split
  · exact Int.emod_eq_of_lt (by omega) (by omega)
  · simp
theorem vn_succ (p : Nat) (xs : List Int) (n : Nat) : trf p (vn p xs n) (zat xs n) (n + 2) (n + 2) = vn p xs (n + 1) := by
  funext j
  unfold trf bef vn
  rw [Pol.van, Pol.mul_lin]
  simp only [Pol.sub, Pol.sh, Pol.sc]
  by_cases h : j < n + 2
  · rw [if_pos (by omega)]
    by_cases h0 : j = 0
    · subst h0
      rw [if_pos rfl, if_pos (by omega), Int.sub_emod 0, Int.emod_emod_of_dvd _ (Int.dvd_refl _), Int.mul_emod, Int.emod_emod_of_dvd _ (Int.dvd_refl _), ← Int.mul_emod, ← Int.sub_emod, Int.mul_comm]
    · rw [if_neg h0, if_neg (by omega), Int.sub_emod, Int.emod_emod_of_dvd _ (Int.dvd_refl _), Int.emod_emod_of_dvd _ (Int.dvd_refl _), Int.mul_emod, Int.emod_emod_of_dvd _ (Int.dvd_refl _), ← Int.mul_emod, ← Int.sub_emod, Int.mul_comm]
  · rw [if_neg (by omega), if_neg (by omega), Pol.van_zero _ _ _ (by omega), Pol.van_zero _ _ _ (by omega)]; simp
theorem vn_bounds (p : Nat) (xs : List Int) (n j : Nat) (h3 : 3 ≤ p) : 0 ≤ vn p xs n j ∧ vn p xs n j < p := emod_bounds _ p h3

/-- the list of Vanish -/
def pvan (p : Nat) (xs : List Int) : List Int := Pol.mk p (Pol.van (zat xs) xs.length) (xs.length + 1)
theorem pvan_list {p : Nat} (h3 : 3 ≤ p) (xs : List Int) : (pvan p xs).length = xs.length + 1 ∧ ∀ j, j < xs.length + 1 → zat (pvan p xs) j = vn p xs xs.length j := by
  have hl : (pvan p xs).length = xs.length + 1 := by
    rw [pvan, Pol.mk_length]
    refine Pol.tp_unique p _ _ _ (Nat.le_refl _) (fun j h1 h2 => by omega) (fun _ => ?_)
    rw [Nat.add_sub_cancel, Pol.van_top, Int.emod_eq_of_lt (by omega) (by omega)]
    omega
  refine ⟨hl, fun j hj => ?_⟩
  rw [← hl, pvan, Pol.mk_length] at hj
  exact Pol.mk_at p _ _ j hj

end Go.Proofs.YtbbjbhiihfnkmahGreatDoor
