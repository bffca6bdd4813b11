/- Plain facts on sums over a cube, of no program: the polynomial through some points is what it should be there; a Total with its first variable let be x; extensions. -/
import Derived.Test.YtmmlphdekeflfaaDoorPolH
import Derived.Test.YtmmlphdekeflfaaDoorPlain
namespace Go.Proofs.YtmmlphdekeflfaaDoor.Sum
open Pol Dom

/-- a product of the first n -/
def prz (f : Nat → Int) : Nat → Int
  | 0 => 1
  | n + 1 => prz f n * f n
/-- two of few places that agree at as many unlike elements agree everywhere -/
theorem agree {p : Nat} (hp : Num.Prime p) (n : Nat) (f g : S) (xs : Nat → Int) (hu : ∀ i j, i < j → j < n → ¬ (p : Int) ∣ xs j - xs i) (h : ∀ i, i < n → (p : Int) ∣ ps f (xs i) n - ps g (xs i) n) (x : Int) : (p : Int) ∣ ps f x n - ps g x n := by
  have hz := roots hp n (Pol.sub f g) xs hu (fun i hi => by
    have := h i hi
    rw [ps_sm, ps_sm] at this
    rw [ps_sm]
    have e : sm (fun j => Pol.sub f g j * xs i ^ j) n = sm (fun j => f j * xs i ^ j) n - sm (fun j => g j * xs i ^ j) n := by
      have h1 := sm_add (fun j => Pol.sub f g j * xs i ^ j) (fun j => g j * xs i ^ j) n
      rw [show (fun j => Pol.sub f g j * xs i ^ j + g j * xs i ^ j) = (fun j => f j * xs i ^ j) from funext fun j => by unfold Pol.sub; grind] at h1
      omega
    rw [e]
    exact this)
  exact ps_congr x n (fun j hj => hz j hj)

/-! ## extensions -/
end Go.Proofs.YtmmlphdekeflfaaDoor.Sum
