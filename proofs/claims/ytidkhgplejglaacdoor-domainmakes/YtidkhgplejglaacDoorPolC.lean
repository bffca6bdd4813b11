/- What package poly's addTimes and Mul answer. -/
import Derived.Test.YtidkhgplejglaacDoorPolB
import Derived.RegionTactic
import Derived.Deep.RegionWith
import Derived.BigRegion
namespace Go.Proofs.YtidkhgplejglaacDoor
open Go.RowKit

/-- so many times y added from place i on, the first k places of it -/
def addf (p : Nat) (f y : Nat → Int) (x : Int) (i k : Nat) : Nat → Int := fun j => if i ≤ j ∧ j < i + k then (f j + y (j - i) * x) % (p : Int) else f j

theorem addf_zero (p : Nat) (f y : Nat → Int) (x : Int) (i : Nat) : addf p f y x i 0 = f := by
  funext j; unfold addf; rw [if_neg (by omega)]
theorem addf_succ (p : Nat) (f y : Nat → Int) (x : Int) (i k : Nat) : up (addf p f y x i k) (i + k) ((f (i + k) + y k * x % (p : Int)) % (p : Int)) = addf p f y x i (k + 1) := by
  funext j; unfold up addf
  by_cases h : j = i + k
  · subst h; rw [if_pos rfl, if_pos (by omega), Nat.add_sub_cancel_left, Int.add_emod (f (i + k)), Int.emod_emod_of_dvd _ (Int.dvd_refl _), ← Int.add_emod]
  · rw [if_neg h]
    by_cases h2 : i ≤ j ∧ j < i + k
    · rw [if_pos h2, if_pos (by omega)]
    · rw [if_neg h2, if_neg (by omega)]
theorem addf_at (p : Nat) (f y : Nat → Int) (x : Int) (i k : Nat) : addf p f y x i k (i + k) = f (i + k) := by unfold addf; rw [if_neg (by omega)]

/-! ## Mul -/
/-- the product's places while the first i of a are taken -/
def pm (p : Nat) (f g : Nat → Int) (i : Nat) : Nat → Int := fun j => Pol.mul (Pol.lo i f) g j % (p : Int)

theorem pm_zero (p : Nat) (f g : Nat → Int) (j : Nat) : pm p f g 0 j = 0 := by
  unfold pm; rw [Pol.lo_zero, Pol.zero_mul]; simp [Pol.zero]
theorem pm_succ (p : Nat) (f : Nat → Int) (ys : List Int) (i : Nat) : addf p (pm p f (zat ys) i) (zat ys) (f i) i ys.length = pm p f (zat ys) (i + 1) := by
  funext j
  unfold addf pm
  rw [Pol.lo_mul_succ]
  simp only [Pol.add, Pol.sh, Pol.sc]
  by_cases h : j < i
  · rw [if_neg (by omega), if_pos h, Int.add_zero]
  · by_cases h2 : j < i + ys.length
    · rw [if_pos (by omega), if_neg h, Int.add_emod (Pol.mul (Pol.lo i f) (zat ys) j % (p : Int)), Int.emod_emod_of_dvd _ (Int.dvd_refl _), ← Int.add_emod, Int.mul_comm (f i)]
    · rw [if_neg (by omega), if_neg h]
      have : zat ys (j - i) = 0 := by simp [zat, show ys.length ≤ j - i from by omega]
      rw [this]; simp
theorem pm_bounds (p : Nat) (f g : Nat → Int) (i j : Nat) (h3 : 3 ≤ p) : 0 ≤ pm p f g i j ∧ pm p f g i j < p := emod_bounds _ p h3

theorem pm_done (p : Nat) (hp : Num.Prime p) (xs ys : List Int) (hx : Pol.Can p xs) (hy : Pol.Can p ys) (h1 : 0 < xs.length) (h2 : 0 < ys.length) :
    (Pol.pmul p xs ys).length = xs.length + ys.length - 1 ∧ ∀ j, j < xs.length + ys.length - 1 → zat (Pol.pmul p xs ys) j = pm p (zat xs) (zat ys) xs.length j := by
  have hl := Pol.pmul_len hp hx hy h1 h2
  refine ⟨hl, fun j hj => ?_⟩
  rw [← hl, Pol.pmul, Pol.mk_length] at hj
  have := Pol.mk_at p (Pol.mul (Pol.cf xs) (Pol.cf ys)) _ j hj
  rw [show zat (Pol.pmul p xs ys) j = (Pol.pmul p xs ys).getD j 0 from rfl, Pol.pmul, this]
  unfold pm
  rw [show Pol.lo xs.length (zat xs) = Pol.cf xs from Pol.lo_len xs]
  rfl

theorem trim_fits {p : Nat} (h3 : 3 ≤ p) (hm : p ≤ 2147483647) (zs : List Int) : Fits (Pol.trim p zs) := fun j hj => by
  have := (Pol.trim_can (p := p) (Nat.lt_of_lt_of_le (by decide) h3) zs).elem j hj
  have e : zat (Pol.trim p zs) j = (Pol.trim p zs).getD j 0 := rfl
  omega
theorem can_fits {p : Nat} (hm : p ≤ 2147483647) {zs : List Int} (h : Pol.Can p zs) : Fits zs := fun j hj => by
  have := h.elem j hj
  have e : zat zs j = zs.getD j 0 := rfl
  omega
theorem pmul_trim {p : Nat} (h3 : 3 ≤ p) (xs ys : List Int) : Pol.pmul p (Pol.trim p xs) (Pol.trim p ys) = Pol.pmul p xs ys :=
  Pol.mk_congr (by omega) (Pol.pmul_b p _ _) (Pol.pmul_b p _ _) ((Pol.trim_eqp p xs).mul (Pol.trim_eqp p ys))

end Go.Proofs.YtidkhgplejglaacDoor
