/- Pledges, plainly: columns, sums of rows, what a table that is 1 at one place extends to. -/
import Derived.Test.YtmmlphdekeflfaaGreatDoorPcAE
import Derived.Test.YtmmlphdekeflfaaGreatDoorRefs
namespace Go.Proofs.YtmmlphdekeflfaaGreatDoor
open Go.RowKit

/-- the sum of products -/
def dtz (p n : Nat) (a b : List Int) : Int := Dom.sm (fun i => zat a i * zat b i) n % (p : Int)
theorem dtz_bounds (p n : Nat) (a b : List Int) (h3 : 3 ≤ p) : 0 ≤ dtz p n a b ∧ dtz p n a b < p := emod_bounds _ p h3
theorem dtz_comm (p n : Nat) (a b : List Int) : dtz p n a b = dtz p n b a := by
  unfold dtz
  rw [Dom.sm_same (g := fun i => zat b i * zat a i) (fun i _ => Int.mul_comm _ _)]
theorem dtz_zero (p : Nat) (a b : List Int) : dtz p 0 a b = 0 := by simp [dtz, Dom.sm]
theorem dtz_succ (p n : Nat) (a b : List Int) : (dtz p n a b + zat a n * zat b n % (p : Int)) % (p : Int) = dtz p (n + 1) a b := by
  unfold dtz
  rw [Int.emod_add_emod, Int.add_emod_emod]
  rfl
/-- the powers of an element -/
def pwl (p : Nat) (r : Int) (n : Nat) : List Int := ls (fun i => ((Num.pwm p (el p r) i : Nat) : Int)) n
theorem pwl_len (p : Nat) (r : Int) (n : Nat) : (pwl p r n).length = n := ls_len _ _
theorem pwl_fits {p : Nat} (hm : p ≤ 2147483647) (h3 : 3 ≤ p) (r : Int) (n : Nat) : Fits (pwl p r n) := fun i hi => by
  rw [pwl_len] at hi
  unfold pwl
  rw [ls_at _ _ _ hi]
  have := Num.pwm_lt p (el p r) i (by omega)
  omega
theorem pwm_dvd {p : Nat} (h3 : 3 ≤ p) (r : Int) (i : Nat) : (p : Int) ∣ ((Num.pwm p (el p r) i : Nat) : Int) - r ^ i := by
  have h0 := emod_bounds r p h3
  have he : ((el p r : Nat) : Int) = r % (p : Int) := by unfold el; omega
  have h1 : ((Num.pwm p (el p r) i : Nat) : Int) = (r % (p : Int)) ^ i % (p : Int) := by
    unfold Num.pwm
    rw [← he]
    simp
  rw [h1]
  apply Int.dvd_of_emod_eq_zero
  rw [Int.sub_emod, Int.emod_emod]
  have : (r % (p : Int)) ^ i % (p : Int) = r ^ i % (p : Int) := by
    clear h1
    induction i with
    | zero => rw [Int.pow_zero, Int.pow_zero]
    | succ i ih => rw [Int.pow_succ, Int.pow_succ, Int.mul_emod, ih, Int.emod_emod, ← Int.mul_emod]
  rw [this]
  simp
theorem ps_sm (f : Nat → Int) (x : Int) (n : Nat) : Pol.ps f x n = Dom.sm (fun i => f i * x ^ i) n := by
  induction n with
  | zero => rfl
  | succ n ih => simp only [Pol.ps, Dom.sm]; rw [ih]
theorem emod_of_dvd {p : Nat} {a b : Int} (h : (p : Int) ∣ a - b) : a % (p : Int) = b % (p : Int) := by
  have := Int.emod_eq_emod_iff_emod_sub_eq_zero (n := (p : Int)) (m := a) (k := b)
  exact this.2 (Int.emod_eq_zero_of_dvd h)
/-- a list at an element: its sum with the powers -/
theorem evz_dtz {p : Nat} (h3 : 3 ≤ p) (zs : List Int) (r : Int) : evz p zs r = dtz p zs.length (pwl p r zs.length) zs := by
  unfold evz dtz
  rw [ps_sm]
  apply emod_of_dvd
  refine Dom.sm_congr (fun i hi => ?_)
  unfold pwl
  rw [ls_at _ _ _ hi]
  obtain ⟨k, hk⟩ := pwm_dvd h3 r i
  exact ⟨-(k * zat zs i), by
    rw [show ((Num.pwm p (el p r) i : Nat) : Int) = (p : Int) * k + r ^ i from by omega]
    grind⟩
/-- what a table that is 1 at one place extends to -/
def wgL (p : Nat) (at' : List Int) : List Int := ls (fun i => Sum.wgt (zat at') at'.length i % (p : Int)) (2 ^ at'.length)
theorem wgL_len (p : Nat) (at' : List Int) : (wgL p at').length = 2 ^ at'.length := ls_len _ _
theorem wgL_fits {p : Nat} (hm : p ≤ 2147483647) (h3 : 3 ≤ p) (at' : List Int) : Fits (wgL p at') := fun i hi => by
  rw [wgL_len] at hi
  unfold wgL
  rw [ls_at _ _ _ hi]
  have := emod_bounds (Sum.wgt (zat at') at'.length i) p h3
  omega
theorem prz_front (f : Nat → Int) (n : Nat) : Sum.prz f (n + 1) = f 0 * Sum.prz (fun k => f (k + 1)) n := by
  induction n with
  | zero => simp [Sum.prz]
  | succ n ih =>
    rw [Sum.prz, ih, Sum.prz]
    grind
theorem wgt_two (at' : Nat → Int) (v i b : Nat) (hb : b < 2) : Sum.wgt at' (v + 1) (2 * i + b) = Sum.wgt at' v i * (if b = 0 then 1 - at' v else at' v) := by
  unfold Sum.wgt
  rw [prz_front, Int.mul_comm]
  congr 1
  · refine Sum.prz_same (fun k hk => ?_)
    have h1 : (2 * i + b) / 2 ^ (k + 1) = i / 2 ^ k := by
      rw [Nat.pow_succ, Nat.mul_comm (2 ^ k) 2, ← Nat.div_div_eq_div_mul, show (2 * i + b) / 2 = i from by omega]
    rw [h1, show v + 1 - 1 - (k + 1) = v - 1 - k from by omega]
  · rw [show (2 * i + b) / 2 ^ 0 % 2 = b from by rw [Nat.pow_zero, Nat.div_one]; omega, show v + 1 - 1 - 0 = v from by omega]
theorem sm_hit {f : Nat → Int} {n k : Nat} (hk : k < n) (h : ∀ i, i < n → i ≠ k → f i = 0) : Dom.sm f n = f k := by
  induction n with
  | zero => omega
  | succ n ih =>
    simp only [Dom.sm]
    by_cases e : k = n
    · subst e
      have : Dom.sm f k = Dom.sm (fun _ => 0) k := Dom.sm_same (fun i hi => h i (by omega) (by omega))
      rw [this, Dom.sm_zero]; omega
    · rw [ih (by omega) (fun i hi => h i (by omega)), h n (by omega) (by omega)]; omega
/-- the table that is 1 at a place -/
theorem ext_unit (at' : Nat → Int) (v i : Nat) (hi : i < 2 ^ v) (t : Nat → Int) (h1 : t i = 1) (h0 : ∀ j, j < 2 ^ v → j ≠ i → t j = 0) : Sum.ext t at' v = Sum.wgt at' v i := by
  unfold Sum.ext
  rw [sm_hit hi (fun j hj hne => by rw [h0 j hj hne]; omega), h1]
  omega
end Go.Proofs.YtmmlphdekeflfaaGreatDoor
