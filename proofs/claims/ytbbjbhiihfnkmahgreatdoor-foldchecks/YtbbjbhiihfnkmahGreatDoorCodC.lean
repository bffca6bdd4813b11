/- Package code: Distance; the reference's. -/
import Derived.Test.YtbbjbhiihfnkmahGreatDoorCodA
import Derived.Deep.QuietTactic
namespace Go.Proofs.YtbbjbhiihfnkmahGreatDoor
open Go.RowKit

/-- do two lists differ at a place? -/
def dq (p : Nat) (xs ys : List Int) (j : Nat) : Bool := !(decide (j < xs.length) && decide (j < ys.length) && (zat xs j % (p : Int) == zat ys j % (p : Int)))
/-- at how many places two lists differ -/
def dist (p : Nat) (xs ys : List Int) : Nat := Cod.cnt (dq p xs ys) (max xs.length ys.length)

theorem dq_comm (p : Nat) (xs ys : List Int) (j : Nat) : dq p xs ys j = dq p ys xs j := by
  unfold dq
  rw [Bool.and_comm (decide (j < xs.length)), show (zat xs j % (p : Int) == zat ys j % (p : Int)) = (zat ys j % (p : Int) == zat xs j % (p : Int)) from by rw [Bool.eq_iff_iff, beq_iff_eq, beq_iff_eq]; exact ⟨fun h => h.symm, fun h => h.symm⟩]
theorem cnt_far (P : Nat → Bool) (m t : Nat) (h : ∀ j, m ≤ j → j < m + t → P j = true) : Cod.cnt P (m + t) = Cod.cnt P m + t := by
  induction t with
  | zero => rfl
  | succ t ih =>
    rw [← Nat.add_assoc]
    simp only [Cod.cnt]
    rw [ih (fun j h1 h2 => h j h1 (by omega)), h (m + t) (by omega) (by omega)]
    simp; omega
theorem dist_short (p : Nat) (xs ys : List Int) (h : xs.length ≤ ys.length) : dist p xs ys = (ys.length - xs.length) + Cod.cnt (dq p xs ys) xs.length := by
  unfold dist
  rw [show max xs.length ys.length = xs.length + (ys.length - xs.length) from by omega, cnt_far _ _ _ (fun j h1 h2 => by unfold dq; simp; omega)]
  omega
theorem dist_comm (p : Nat) (xs ys : List Int) : dist p xs ys = dist p ys xs := by
  unfold dist
  rw [Nat.max_comm]
  exact Cod.cnt_congr (fun j _ => dq_comm p xs ys j)

end Go.Proofs.YtbbjbhiihfnkmahGreatDoor
