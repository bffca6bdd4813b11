/- Package domain: Coefficients. -/
import Derived.Test.YtidkhgplejglaacDomH
import Derived.Test.YtidkhgplejglaacPolA
namespace Go.Proofs.Ytidkhgplejglaac
open Go.RowKit

theorem inv_dvd_one {p : Nat} (hp : Num.Prime p) (h3 : 3 ≤ p) {z : Int} (h : ¬ (p : Int) ∣ z) : (p : Int) ∣ (invn p z : Int) * z - 1 := by
  have hz : z % (p : Int) ≠ 0 := fun e => h (Int.dvd_of_emod_eq_zero e)
  have h1 : 0 < el p z := by have := (emod_bounds z p h3).1; unfold el; omega
  have h2 := el_lt p z h3
  have key : invn p z * el p z % p = 1 := by
    unfold invn
    have : el p z = Num.pwm p (el p z) 1 := (Num.pwm_one p _ h2).symm
    rw [show Num.pwm p (el p z) (p - 2) * el p z = Num.pwm p (el p z) (p - 2) * Num.pwm p (el p z) 1 from by rw [← this], Num.pwm_add, show p - 2 + 1 = p - 1 from by omega]
    exact Num.pwm_fermat hp h1 h2
  have e1 := el_cast p z h3
  have d1 : (p : Int) ∣ ((invn p z * el p z : Nat) : Int) - 1 := by
    have hm := Nat.div_add_mod (invn p z * el p z) p
    rw [key] at hm
    obtain ⟨k, hk⟩ : ∃ k, p * k + 1 = invn p z * el p z := ⟨_, hm⟩
    rw [← hk]
    exact ⟨(k : Int), by push_cast; omega⟩
  have d2 : (p : Int) ∣ (invn p z : Int) * (z % (p : Int) - z) := Int.dvd_mul_of_dvd_right (Pol.emod_dvd p z)
  have := Int.dvd_sub d1 d2
  rw [show ((invn p z * el p z : Nat) : Int) - 1 - (invn p z : Int) * (z % (p : Int) - z) = (invn p z : Int) * z - 1 from by push_cast; rw [e1]; grind] at this
  exact this

/-- the polynomial's places ahead of Trim -/
def coefs (p : Nat) (zs : List Int) (n : Nat) (v m t : Int) : Nat → Int := fun j => Dom.ft p (zat zs) v n j * (m * t ^ j % (p : Int)) % (p : Int)

end Go.Proofs.Ytidkhgplejglaac
