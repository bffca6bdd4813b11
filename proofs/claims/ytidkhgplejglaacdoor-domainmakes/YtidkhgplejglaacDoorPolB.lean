/- What package poly's Add and Sub answer, for every two lists. -/
import Derived.Test.YtidkhgplejglaacDoorPolA
namespace Go.Proofs.YtidkhgplejglaacDoor
open Go.RowKit

theorem ret_slice {a : Option Addr} {n m c : Nat} (h : n = m) : Ending.returned (.slice a n c) = .returned (.slice a m c) := by rw [h]

/-- the longer length -/
def mxn (n m : Nat) : Nat := max n m

theorem add_list (p : Nat) (xs ys : List Int) : (Pol.padd p xs ys).length = tpn p (fun j => zat xs j + zat ys j) (mxn xs.length ys.length) ∧ ∀ j, j < (Pol.padd p xs ys).length → zat (Pol.padd p xs ys) j = (zat xs j + zat ys j) % (p : Int) :=
  ⟨Pol.mk_length _ _ _, fun j hj => by rw [Pol.padd, Pol.mk_length] at hj; exact Pol.mk_at p _ _ j hj⟩
theorem sub_list (p : Nat) (xs ys : List Int) : (Pol.psub p xs ys).length = tpn p (fun j => zat xs j - zat ys j) (mxn xs.length ys.length) ∧ ∀ j, j < (Pol.psub p xs ys).length → zat (Pol.psub p xs ys) j = (zat xs j - zat ys j) % (p : Int) :=
  ⟨Pol.mk_length _ _ _, fun j hj => by rw [Pol.psub, Pol.mk_length] at hj; exact Pol.mk_at p _ _ j hj⟩

end Go.Proofs.YtidkhgplejglaacDoor
