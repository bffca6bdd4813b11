/- Pledges, plainly: columns, sums of rows, what a table that is 1 at one place extends to. -/
import Derived.Test.YtmmlphdekeflfaaGreatDoorPbAE
import Derived.Test.YtmmlphdekeflfaaGreatDoorRefs
namespace Go.Proofs.YtmmlphdekeflfaaGreatDoor
open Go.RowKit

/-- what rows have at a place -/
def pgc (rows : List (List Int)) (j : Nat) : List Int := rows.map fun r => zat r j
theorem pgc_len (rows : List (List Int)) (j : Nat) : (pgc rows j).length = rows.length := by simp [pgc]
theorem pgc_at {rows : List (List Int)} {i : Nat} (j : Nat) (h : i < rows.length) : zat (pgc rows j) i = zat (rat rows i) j := by
  simp [pgc, rat, zat, h]
theorem pgc_fits {rows : List (List Int)} (h : FitsR rows) (j : Nat) : Fits (pgc rows j) := fun i hi => by
  rw [pgc_len] at hi
  rw [pgc_at j hi]
  exact (h i hi).1.all j
/-- the sum of products -/
def dtz (p n : Nat) (a b : List Int) : Int := Dom.sm (fun i => zat a i * zat b i) n % (p : Int)
theorem dtz_bounds (p n : Nat) (a b : List Int) (h3 : 3 ≤ p) : 0 ≤ dtz p n a b ∧ dtz p n a b < p := emod_bounds _ p h3
theorem dtz_zero (p : Nat) (a b : List Int) : dtz p 0 a b = 0 := by simp [dtz, Dom.sm]
theorem dtz_succ (p n : Nat) (a b : List Int) : (dtz p n a b + zat a n * zat b n % (p : Int)) % (p : Int) = dtz p (n + 1) a b := by
  unfold dtz
  rw [Int.emod_add_emod, Int.add_emod_emod]
  rfl
theorem ps_sm (f : Nat → Int) (x : Int) (n : Nat) : Pol.ps f x n = Dom.sm (fun i => f i * x ^ i) n := by
  induction n with
  | zero => rfl
  | succ n ih => simp only [Pol.ps, Dom.sm]; rw [ih]
theorem emod_of_dvd {p : Nat} {a b : Int} (h : (p : Int) ∣ a - b) : a % (p : Int) = b % (p : Int) := by
  have := Int.emod_eq_emod_iff_emod_sub_eq_zero (n := (p : Int)) (m := a) (k := b)
  exact this.2 (Int.emod_eq_zero_of_dvd h)
/-- what a table that is 1 at one place extends to -/
def wgL (p : Nat) (at' : List Int) : List Int := ls (fun i => Sum.wgt (zat at') at'.length i % (p : Int)) (2 ^ at'.length)
theorem wgL_len (p : Nat) (at' : List Int) : (wgL p at').length = 2 ^ at'.length := ls_len _ _
theorem wgL_fits {p : Nat} (hm : p ≤ 2147483647) (h3 : 3 ≤ p) (at' : List Int) : Fits (wgL p at') := fun i hi => by
  rw [wgL_len] at hi
  unfold wgL
  rw [ls_at _ _ _ hi]
  have := emod_bounds (Sum.wgt (zat at') at'.length i) p h3
  omega
theorem prz_front (f : Nat → Int) (n : Nat) : Sum.prz f (n + 1) = f 0 * Sum.prz (fun k => f (k + 1)) n := by
  induction n with
  | zero => simp [Sum.prz]
  | succ n ih =>
    rw [Sum.prz, ih, Sum.prz]
    grind
theorem wgt_two (at' : Nat → Int) (v i b : Nat) (hb : b < 2) : Sum.wgt at' (v + 1) (2 * i + b) = Sum.wgt at' v i * (if b = 0 then 1 - at' v else at' v) := by
  unfold Sum.wgt
  rw [prz_front, Int.mul_comm]
  congr 1
  · refine Sum.prz_same (fun k hk => ?_)
    have h1 : (2 * i + b) / 2 ^ (k + 1) = i / 2 ^ k := by
      rw [Nat.pow_succ, Nat.mul_comm (2 ^ k) 2, ← Nat.div_div_eq_div_mul, show (2 * i + b) / 2 = i from by omega]
    rw [h1, show v + 1 - 1 - (k + 1) = v - 1 - k from by omega]
  · rw [show (2 * i + b) / 2 ^ 0 % 2 = b from by rw [Nat.pow_zero, Nat.div_one]; omega, show v + 1 - 1 - 0 = v from by omega]
end Go.Proofs.YtmmlphdekeflfaaGreatDoor
