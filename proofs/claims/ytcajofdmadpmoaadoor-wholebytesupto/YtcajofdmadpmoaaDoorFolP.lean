/- Plain facts on folding words, of no program. -/
import Derived.Test.YtcajofdmadpmoaaDoorCodC
import Derived.Test.YtcajofdmadpmoaaDoorWbAB
namespace Go.Proofs.YtcajofdmadpmoaaDoor.Fol
open Pol Dom

theorem dvdm {p : Nat} {a b c d : Int} (h : (p : Int) ∣ a - b) (k : (p : Int) ∣ c - d) : (p : Int) ∣ a * c - b * d := by
  have h1 := Int.dvd_mul_of_dvd_left (c := c) h
  have h2 := Int.dvd_mul_of_dvd_right (b := b) k
  have := Int.dvd_add h1 h2
  rwa [show (a - b) * c + b * (c - d) = a * c - b * d from by grind] at this
theorem dvda {p : Nat} {a b c d : Int} (h : (p : Int) ∣ a - b) (k : (p : Int) ∣ c - d) : (p : Int) ∣ (a + c) - (b + d) := by
  have := Int.dvd_add h k
  rwa [show (a - b) + (c - d) = (a + c) - (b + d) from by omega] at this
theorem dvds {p : Nat} {a b c d : Int} (h : (p : Int) ∣ a - b) (k : (p : Int) ∣ c - d) : (p : Int) ∣ (a - c) - (b - d) := by
  have := Int.dvd_sub h k
  rwa [show (a - b) - (c - d) = (a - c) - (b - d) from by omega] at this
theorem dvdt {p : Nat} {a b c : Int} (h : (p : Int) ∣ a - b) (k : (p : Int) ∣ b - c) : (p : Int) ∣ a - c := by
  have := Int.dvd_add h k
  rwa [show (a - b) + (b - c) = a - c from by omega] at this
theorem dvdn {p : Nat} {a b : Int} (h : (p : Int) ∣ a - b) : (p : Int) ∣ b - a := by
  have := Int.dvd_neg.2 h
  rwa [Int.neg_sub] at this
theorem dvd0 (p : Nat) (a : Int) : (p : Int) ∣ a - a := by rw [Int.sub_self]; exact Int.dvd_zero _
theorem two_nd {p : Nat} (h3 : 3 ≤ p) : ¬ (p : Int) ∣ 2 := fun h => by
  have := Int.le_of_dvd (by omega) h
  omega

/-- what a pair becomes -/
def pairz (p : Nat) (x a b c : Int) : Int := ((a + b) * (invn p 2 : Int) + (a - b) * (invn p (x * 2 % (p : Int)) : Int) * c) % (p : Int)
/-- its two parts -/
theorem parts {p : Nat} (hp : Num.Prime p) (h3 : 3 ≤ p) {x : Int} (hx : ¬ (p : Int) ∣ x) (a b : Int) : ∃ A B : Int, (∀ c, (p : Int) ∣ pairz p x a b c - (A + c * B)) ∧ (p : Int) ∣ A + x * B - a ∧ (p : Int) ∣ A - x * B - b ∧ (∀ E O : Int, (p : Int) ∣ a - (E + x * O) → (p : Int) ∣ b - (E - x * O) → (p : Int) ∣ A - E ∧ (p : Int) ∣ B - O) := by
  have h2 := two_nd h3
  have hx2 : ¬ (p : Int) ∣ x * 2 % (p : Int) := fun h => by
    have : (p : Int) ∣ x * 2 := by
      have := Int.dvd_sub h (emod_dvd p (x * 2))
      rwa [show x * 2 % (p : Int) - (x * 2 % (p : Int) - x * 2) = x * 2 from by omega] at this
    exact (prime_mul hp this).elim hx h2
  have i2 := invn_dvd hp h3 h2
  have ix := invn_dvd hp h3 hx2
  obtain ⟨I, hI⟩ : ∃ I : Int, I = (invn p 2 : Int) := ⟨_, rfl⟩
  obtain ⟨J, hJ⟩ : ∃ J : Int, J = (invn p (x * 2 % (p : Int)) : Int) := ⟨_, rfl⟩
  rw [← hI] at i2
  rw [← hJ] at ix
  have ix2 : (p : Int) ∣ J * (x * 2) - 1 := dvdt (dvdm (dvd0 p J) (dvdn (emod_dvd p (x * 2)))) ix
  -- twice and x times
  have c2 : ∀ {y z : Int}, (p : Int) ∣ y * 2 - z * 2 → (p : Int) ∣ y - z := fun {y z} h => by
    rw [show y * 2 - z * 2 = (y - z) * 2 from by omega] at h
    exact (prime_mul hp h).resolve_right h2
  have hA : (p : Int) ∣ (a + b) * I * 2 - (a + b) := by
    have := dvdm (dvd0 p (a + b)) i2
    rwa [show (a + b) * (I * 2) - (a + b) * 1 = (a + b) * I * 2 - (a + b) from by grind] at this
  have hB : (p : Int) ∣ (a - b) * J * (x * 2) - (a - b) := by
    have := dvdm (dvd0 p (a - b)) ix2
    rwa [show (a - b) * (J * (x * 2)) - (a - b) * 1 = (a - b) * J * (x * 2) - (a - b) from by grind] at this
  refine ⟨(a + b) * I, (a - b) * J, fun c => ?_, ?_, ?_, fun E O ha hb => ⟨?_, ?_⟩⟩
  · unfold pairz
    rw [← hI, ← hJ]
    have := emod_dvd p ((a + b) * I + (a - b) * J * c)
    rwa [show (a - b) * J * c = c * ((a - b) * J) from by grind] at this ⊢
  · refine c2 ?_
    have := dvda hA hB
    rwa [show (a + b) * I * 2 + (a - b) * J * (x * 2) - (a + b + (a - b)) = ((a + b) * I + x * ((a - b) * J)) * 2 - a * 2 from by grind] at this
  · refine c2 ?_
    have := dvds hA hB
    rwa [show (a + b) * I * 2 - (a - b) * J * (x * 2) - (a + b - (a - b)) = ((a + b) * I - x * ((a - b) * J)) * 2 - b * 2 from by grind] at this
  · refine c2 (dvdt hA ?_)
    have := dvda ha hb
    rwa [show a + b - (E + x * O + (E - x * O)) = a + b - E * 2 from by omega] at this
  · have h4 := dvdt hB (dvds ha hb)
    rw [show (a - b) * J * (x * 2) - (E + x * O - (E - x * O)) = ((a - b) * J - O) * (x * 2) from by grind] at h4
    exact (prime_mul hp h4).resolve_right (fun h => (prime_mul hp h).elim hx h2)
/-- a circle of n points -/
structure Cir (p n : Nat) (r s : Int) : Prop where
  pr : Num.Prime p
  h3 : 3 ≤ p
  ord : Ord p r n
  sd : ¬ (p : Int) ∣ s
theorem pow_mod {p : Nat} {a b : Int} (h : (p : Int) ∣ a - b) : ∀ i : Nat, (p : Int) ∣ a ^ i - b ^ i
  | 0 => by simp
  | i + 1 => by rw [Int.pow_succ, Int.pow_succ]; exact dvdm (pow_mod h i) h
end Go.Proofs.YtcajofdmadpmoaaDoor.Fol
