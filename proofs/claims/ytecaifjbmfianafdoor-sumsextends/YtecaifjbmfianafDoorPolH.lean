/- What package poly's Fit answers. -/
import Derived.Test.YtecaifjbmfianafDoorPolG
import Derived.Test.YtecaifjbmfianafDoorDistinct
import Derived.Test.YtecaifjbmfianafDoorInvsB
namespace Go.Proofs.YtecaifjbmfianafDoor
open Go.RowKit

/-- what the i-th product is multiplied by -/
def fc (p : Nat) (xs ys : List Int) (i : Nat) : Int := zat ys i * (invn p (evz p (vskl p xs i xs.length) (zat xs i)) : Int) % (p : Int)

/-- the sum of the first i products -/
def FS (p : Nat) (xs ys : List Int) : Nat → Nat → Int
  | 0 => Pol.zero
  | i + 1 => Pol.add (FS p xs ys i) (Pol.sc (fc p xs ys i) (Pol.vsk (zat xs) i xs.length))

def fsm (p : Nat) (xs ys : List Int) (i : Nat) : Nat → Int := fun j => FS p xs ys i j % (p : Int)
theorem fsm_bounds (p : Nat) (xs ys : List Int) (i j : Nat) (h3 : 3 ≤ p) : 0 ≤ fsm p xs ys i j ∧ fsm p xs ys i j < p := emod_bounds _ p h3
theorem fsm_zero (p : Nat) (xs ys : List Int) (j : Nat) : fsm p xs ys 0 j = 0 := by simp [fsm, FS, Pol.zero]

theorem fsm_succ {p : Nat} (h3 : 3 ≤ p) (xs ys : List Int) (i : Nat) (hi : i < xs.length) (j : Nat) (hj : j < xs.length) : awf p (fsm p xs ys i) (pvan p xs) (zat xs i) (fc p xs ys i) xs.length xs.length j = fsm p xs ys (i + 1) j := by
  unfold awf
  rw [if_pos (by omega), sd_vsk h3 xs i hi (xs.length - j) (by omega), show xs.length - (xs.length - j) = j from by omega]
  unfold fsm
  rw [FS]
  simp only [Pol.add, Pol.sc]
  rw [Int.mul_emod, Int.emod_emod_of_dvd _ (Int.dvd_refl _), ← Int.mul_emod, ← Int.add_emod, Int.mul_comm]

theorem FS_zero (p : Nat) (xs ys : List Int) (i : Nat) (hi : i ≤ xs.length) (j : Nat) (hj : xs.length ≤ j) : FS p xs ys i j = 0 := by
  induction i with
  | zero => rfl
  | succ i ih =>
    rw [FS]; simp only [Pol.add, Pol.sc]
    rw [ih (by omega), Pol.vsk_zero _ _ _ _ (by omega) hj]; simp

/-- the polynomial through the points -/
def pfit (p : Nat) (xs ys : List Int) : List Int := Pol.mk p (FS p xs ys xs.length) xs.length

theorem ret_fit {a : Option Addr} {n m c : Nat} (h : n = m) : Ending.returned (.tuple #[.slice a n c, .nilIface]) = .returned (.tuple #[.slice a m c, .nilIface]) := by rw [h]

end Go.Proofs.YtecaifjbmfianafDoor
