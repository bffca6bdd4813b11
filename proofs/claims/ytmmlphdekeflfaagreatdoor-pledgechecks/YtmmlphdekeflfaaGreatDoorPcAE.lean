/- What package poly's Fit answers. Plain facts on sums over a cube, of no program: the polynomial through some points is what it should be there; a Total with its first variable let be x; extensions. -/
import Derived.Test.YtmmlphdekeflfaaGreatDoorPcAB
import Derived.Test.YtmmlphdekeflfaaGreatDoorPcAC
import Derived.Test.YtmmlphdekeflfaaGreatDoorPcAD
import Derived.Test.YtmmlphdekeflfaaGreatDoorPlain
namespace Go.Proofs.YtmmlphdekeflfaaGreatDoor
open Go.RowKit

/-- what the i-th product is multiplied by -/
def fc (p : Nat) (xs ys : List Int) (i : Nat) : Int := zat ys i * (invn p (evz p (vskl p xs i xs.length) (zat xs i)) : Int) % (p : Int)

/-- the sum of the first i products -/
def FS (p : Nat) (xs ys : List Int) : Nat → Nat → Int
  | 0 => Pol.zero
  | i + 1 => Pol.add (FS p xs ys i) (Pol.sc (fc p xs ys i) (Pol.vsk (zat xs) i xs.length))

end Go.Proofs.YtmmlphdekeflfaaGreatDoor

namespace Go.Proofs.YtmmlphdekeflfaaGreatDoor.Sum
open Pol Dom

/-- a product of the first n -/
def prz (f : Nat → Int) : Nat → Int
  | 0 => 1
  | n + 1 => prz f n * f n
theorem prz_same {f g : Nat → Int} {n : Nat} (h : ∀ i, i < n → f i = g i) : prz f n = prz g n := by
  induction n with
  | zero => rfl
  | succ n ih => simp only [prz]; rw [ih (fun i hi => h i (by omega)), h n (by omega)]
theorem dvd_mul_sub {p : Nat} {a b c d : Int} (h : (p : Int) ∣ a - b) (k : (p : Int) ∣ c - d) : (p : Int) ∣ a * c - b * d := by
  have h1 := Int.dvd_mul_of_dvd_left (c := c) h
  have h2 := Int.dvd_mul_of_dvd_right (b := b) k
  have := Int.dvd_add h1 h2
  rwa [show (a - b) * c + b * (c - d) = a * c - b * d from by grind] at this
theorem dvd_add_sub {p : Nat} {a b c d : Int} (h : (p : Int) ∣ a - b) (k : (p : Int) ∣ c - d) : (p : Int) ∣ (a + c) - (b + d) := by
  have := Int.dvd_add h k
  rwa [show (a - b) + (c - d) = (a + c) - (b + d) from by omega] at this
/-- two of few places that agree at as many unlike elements agree everywhere -/
theorem agree {p : Nat} (hp : Num.Prime p) (n : Nat) (f g : S) (xs : Nat → Int) (hu : ∀ i j, i < j → j < n → ¬ (p : Int) ∣ xs j - xs i) (h : ∀ i, i < n → (p : Int) ∣ ps f (xs i) n - ps g (xs i) n) (x : Int) : (p : Int) ∣ ps f x n - ps g x n := by
  have hz := roots hp n (Pol.sub f g) xs hu (fun i hi => by
    have := h i hi
    rw [ps_sm, ps_sm] at this
    rw [ps_sm]
    have e : sm (fun j => Pol.sub f g j * xs i ^ j) n = sm (fun j => f j * xs i ^ j) n - sm (fun j => g j * xs i ^ j) n := by
      have h1 := sm_add (fun j => Pol.sub f g j * xs i ^ j) (fun j => g j * xs i ^ j) n
      rw [show (fun j => Pol.sub f g j * xs i ^ j + g j * xs i ^ j) = (fun j => f j * xs i ^ j) from funext fun j => by unfold Pol.sub; grind] at h1
      omega
    rw [e]
    exact this)
  exact ps_congr x n (fun j hj => hz j hj)

/-! ## extensions -/
/-- a place's bits, each by its factor -/
def wgt (at' : Nat → Int) (v i : Nat) : Int := prz (fun k => if (i / 2 ^ k) % 2 = 0 then 1 - at' (v - 1 - k) else at' (v - 1 - k)) v
/-- what a table is at a point -/
def ext (t at' : Nat → Int) (v : Nat) : Int := sm (fun i => t i * wgt at' v i) (2 ^ v)
end Go.Proofs.YtmmlphdekeflfaaGreatDoor.Sum
