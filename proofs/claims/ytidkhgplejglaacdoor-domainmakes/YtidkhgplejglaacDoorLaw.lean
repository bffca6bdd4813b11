/- lives gives a field, and the law FieldFermat answers true for every input, its calls by their contracts. -/
import Derived.Test.YtidkhgplejglaacDoorOrder
namespace Go.Proofs.YtidkhgplejglaacDoor
open Go.RowKit

theorem prime17 : Num.Prime 17 := by
  refine ⟨by decide, fun d hd => ?_⟩
  have hle : d ≤ 17 := Nat.le_of_dvd (by decide) hd
  have key : ∀ e, e ≤ 17 → 17 % e = 0 → e = 1 ∨ e = 17 := by decide
  exact key d hle (Nat.mod_eq_zero_of_dvd hd)

theorem two_of16 (q : Nat) (hq : Num.Prime q) (hd : q ∣ 16) : q = 2 := by
  have hle : q ≤ 16 := Nat.le_of_dvd (by decide) hd
  have key : ∀ e, e ≤ 16 → 16 % e = 0 → 2 ≤ e → e = 2 ∨ (4 ∣ e) := by decide
  rcases key q hle (Nat.mod_eq_zero_of_dvd hd) hq.1 with g | g
  · exact g
  · rcases hq.2 2 (Nat.dvd_trans (by decide) g) with h | h <;> omega

theorem prime2 : Num.Prime 2 := by
  refine ⟨by decide, fun d hd => ?_⟩
  have := Nat.le_of_dvd (by decide) hd
  have h0 : d ≠ 0 := by rintro rfl; have := Nat.eq_zero_of_zero_dvd hd; omega
  omega

theorem gen17 : Num.GenIs 17 3 := by
  refine Or.inl ⟨by decide, by decide, fun q hq hd => ?_, fun x h1 h2 h => ?_⟩
  · have := two_of16 q hq hd
    subst this
    decide
  · have h8 := h 2 prime2 (by decide)
    have hx : x = 1 ∨ x = 2 := by omega
    rcases hx with rfl | rfl <;> exact h8 (by decide)

/-- p factors make the element itself -/
theorem powz_p (p : Nat) (a : Int) (hp : Num.Prime p) (h3 : 3 ≤ p) : ((powz p a p : Nat) : Int) = a % (p : Int) := by
  obtain ⟨a1, a2⟩ := emod_bounds a p h3
  by_cases hz : a % (p : Int) = 0
  · unfold powz
    rw [if_pos ⟨hz, by omega⟩, hz]; rfl
  · rw [powz_nat p a p hp h3 hz]
    have hs0 : 0 < (a % (p : Int)).toNat := by omega
    have hsp : (a % (p : Int)).toNat < p := by omega
    have e : p % (p - 1) = 1 := by
      rw [show p = 1 + (p - 1) from by omega, Nat.add_sub_cancel_left, Nat.add_mod_right, Nat.mod_eq_of_lt (by omega)]
    rw [← Num.pwm_mod hp hs0 hsp p, e, Num.pwm_one p _ hsp]
    omega

end Go.Proofs.YtidkhgplejglaacDoor
