/- attestref1.Unlike: whether all of a list are unlike, as elements. A cell appended to a list of the call's own, of any length. What the rules say of rows, plainly. A region that draws its order: an operation that yields its value in every world of a kind, and for which every store of the region waits, may be taken first. Own law, after the shape of the library's: what is held need not hold behind the stores. -/
import Derived.Test.YtfppkjpgihnibaaDoorPls
import Derived.Deep.QuietTactic
import Derived.BigQuiet
import Derived.Test.YtfppkjpgihnibaaDoorWbtAH
import Derived.Test.YtfppkjpgihnibaaDoorFld
import Derived.Test.YtfppkjpgihnibaaDoorWbtAG
import Derived.OrdersHeld
import Derived.RegionTactic
namespace Go.Proofs.YtfppkjpgihnibaaDoor
open Go.RowKit

end Go.Proofs.YtfppkjpgihnibaaDoor

namespace Go.Proofs.YtfppkjpgihnibaaDoor
open Go.RowKit

end Go.Proofs.YtfppkjpgihnibaaDoor

namespace Go.Proofs.YtfppkjpgihnibaaDoor
open Go.RowKit Go.Maps

theorem em_add1 (a b : Int) (p : Nat) : (a % (p : Int) + b) % (p : Int) = (a + b) % (p : Int) := by rw [Int.add_emod, Int.emod_emod_of_dvd _ (Int.dvd_refl _), ← Int.add_emod]
theorem em_add2 (a b : Int) (p : Nat) : (a + b % (p : Int)) % (p : Int) = (a + b) % (p : Int) := by rw [Int.add_emod, Int.emod_emod_of_dvd b (Int.dvd_refl _), ← Int.add_emod]
theorem em_mul1 (a b : Int) (p : Nat) : (a % (p : Int) * b) % (p : Int) = (a * b) % (p : Int) := by rw [Int.mul_emod, Int.emod_emod_of_dvd _ (Int.dvd_refl _), ← Int.mul_emod]
theorem em_mul2 (a b : Int) (p : Nat) : (a * (b % (p : Int))) % (p : Int) = (a * b) % (p : Int) := by rw [Int.mul_emod, Int.emod_emod_of_dvd b (Int.dvd_refl _), ← Int.mul_emod]

end Go.Proofs.YtfppkjpgihnibaaDoor

namespace Go.Proofs.YtfppkjpgihnibaaDoor
open Go

section
variable {P : Program} {ops : Array Oper} {Q : Exit → Act → World → Prop} {md : Region.Mode} {C : World → Prop} {st : List Nat}

/-- what has come up waited for what had come up -/
def Cl (md : Region.Mode) (ops : Array Oper) (L : Array Bool) : Prop := ∀ (k : Nat) (o : Oper), ops[k]? = some o → L.getD k false = true → ∀ e ∈ o.after, Region.binds md e = true → L.getD e.on false = true
theorem getD_mono {L : Array Bool} {j x : Nat} (h : L.getD x false = true) : (L.setIfInBounds j true).getD x false = true := by
  by_cases e : j = x
  · subst e
    rcases Nat.lt_or_ge j L.size with g | g
    · simp [g]
    · simp [Array.getElem?_eq_none g] at h
  · simp only [Array.getD_eq_getD_getElem?] at *
    rw [Array.getElem?_setIfInBounds_ne e]; exact h

theorem Cl.set {L : Array Bool} (h : Cl md ops L) {j : Nat} (hj : ∀ o, ops[j]? = some o → ∀ e ∈ o.after, Region.binds md e = true → L.getD e.on false = true) : Cl md ops (L.setIfInBounds j true) := fun k o hk hl e he hb => by
  by_cases ejk : j = k
  · subst ejk; exact getD_mono (hj o hk e he hb)
  · refine getD_mono (h k o hk ?_ e he hb)
    simp only [Array.getD_eq_getD_getElem?] at *
    rw [Array.getElem?_setIfInBounds_ne ejk] at hl; exact hl

end
end Go.Proofs.YtfppkjpgihnibaaDoor
