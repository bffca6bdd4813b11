/- What package attestref1 answers of elements and powers, and what makes 1 of an element. -/
import Derived.Test.YtidkhgplejglaacPow
namespace Go.Proofs.Ytidkhgplejglaac
open Go.RowKit

set_option maxHeartbeats 400000 in
theorem rof_any (p : Nat) (n : Int) (w : World) (h3 : 3 ≤ p) (hm : p ≤ 2147483647) (_hn : -9223372036854775808 ≤ n) (_hn2 : n ≤ 9223372036854775807) :
    Calls Try.prog 32 #[.int .i64 p, .int .i64 n] w fun e w' => e = .returned (.int .i64 (n % p)) ∧ w' = w := by
  obtain ⟨hb1, hb2⟩ := tmod_bounds n p (by omega)
  by_cases h1 : 0 ≤ n
  · have hb3 := Int.emod_nonneg n (b := (p : Int)) (by omega)
    clear hb1 hb2
    go_enter Try.func32, Try.ntmps32
    go_wp2_with fail
    go_ret
    exact ⟨rfl, rfl⟩
  · by_cases h2 : n.tmod p < 0
    · have he : Hid (n.tmod p + p = n % p) := hid (tmod_neg_fix n p (by omega) h2)
      have hs1 : 0 ≤ n.tmod p + p := by omega
      go_enter Try.func32, Try.ntmps32
      go_wp2_with fail
      go_ret
      exact ⟨ret_int he.out, rfl⟩
    · have he : Hid (n.tmod p = n % p) := hid (tmod_pos_fix n p (by omega) h2)
      go_enter Try.func32, Try.ntmps32
      go_wp2_with fail
      go_ret
      exact ⟨ret_int he.out, rfl⟩

theorem el_cast (p : Nat) (a : Int) (h3 : 3 ≤ p) : ((el p a : Nat) : Int) = a % p := by
  have := (emod_bounds a p h3).1; unfold el; omega
theorem el_lt (p : Nat) (a : Int) (h3 : 3 ≤ p) : el p a < p := by
  have := emod_bounds a p h3; unfold el; omega
theorem el_self (p : Nat) (a : Int) : el p (a % p) = el p a := by
  unfold el; rw [Int.emod_emod_of_dvd _ (Int.dvd_refl _)]

theorem half_facts (N i : Nat) : N / 2 ^ i / 2 = N / 2 ^ (i + 1) := by rw [Nat.div_div_eq_div_mul, Nat.pow_succ]

theorem el_bounds (p : Nat) (a : Int) (h3 : 3 ≤ p) (hm : p ≤ 2147483647) : -9223372036854775808 ≤ ((el p a : Nat) : Int) ∧ ((el p a : Nat) : Int) ≤ 9223372036854775807 := by
  have := el_lt p a h3; omega

/-- what makes 1 of an element -/
def invn (p : Nat) (a : Int) : Nat := Num.pwm p (el p a) (p - 2)

theorem invn_lt (p : Nat) (a : Int) (h3 : 3 ≤ p) : invn p a < p := Num.pwm_lt _ _ _ (by omega)

theorem neg_tmod (m : Nat) : (-(m : Int)).tmod 2 = -((m % 2 : Nat) : Int) := by
  rw [Int.neg_tmod, Int.tmod_eq_emod_of_nonneg (by omega)]; simp
theorem neg_tdiv (m : Nat) : (-(m : Int)).tdiv 2 = -((m / 2 : Nat) : Int) := by
  rw [Int.neg_tdiv, Int.tdiv_eq_ediv_of_nonneg (by omega)]; simp

/-- the number in a slot, its sign aside -/
def absOf (v : Value) : Nat := (intOf v).natAbs

theorem pwm_zero_left (p n : Nat) (hn : n ≠ 0) : Num.pwm p 0 n = 0 := by
  unfold Num.pwm; rw [Nat.zero_pow (by omega), Nat.zero_mod]

theorem powz_zero (p : Nat) (a n : Int) (h : a % (p : Int) = 0) (hn : n ≠ 0) : powz p a n = 0 := by unfold powz; rw [if_pos ⟨h, hn⟩]

/-- Pow and attestref1.Pow are one, from 0 on -/
theorem powz_ref_nat (p N : Nat) (a : Int) (hp : Num.Prime p) (h3 : 3 ≤ p) : powz p a N = Num.pwm p (el p a) N := by
  by_cases hz : a % (p : Int) = 0
  · have he : el p a = 0 := by unfold el; rw [hz]; rfl
    by_cases hN : N = 0
    · subst hN
      unfold powz
      rw [if_neg (by simp), he, hz]
      simp
    · rw [powz_zero p a N hz (by omega), he, pwm_zero_left p N hN]
  · obtain ⟨a1, a2⟩ := emod_bounds a p h3
    have e : (N : Int) % ((p : Int) - 1) = ((N % (p - 1) : Nat) : Int) := by
      rw [show (p : Int) - 1 = ((p - 1 : Nat) : Int) from by omega]; simp
    unfold powz el
    rw [if_neg (fun h => hz h.1), e, Int.toNat_natCast, Num.pwm_mod hp (by omega) (by omega)]

theorem inv_ref (p : Nat) (a : Int) (hp : Num.Prime p) (h3 : 3 ≤ p) : powz p a ((p : Int) - 2) = invn p a := by
  rw [show (p : Int) - 2 = ((p - 2 : Nat) : Int) from by omega, powz_ref_nat p (p - 2) a hp h3]; rfl

theorem neg_exp (p N : Nat) (h3 : 3 ≤ p) : ((p - 2) * N) % (p - 1) = ((-(N : Int)) % ((p : Int) - 1)).toNat := by
  have e : (((p - 2) * N % (p - 1) : Nat) : Int) = (-(N : Int)) % ((p : Int) - 1) := by
    have h1 : ((p - 1 : Nat) : Int) = (p : Int) - 1 := by omega
    have h2 : ((p - 2 : Nat) : Int) = ((p : Int) - 1) + (-1) := by omega
    rw [Int.natCast_emod, Int.natCast_mul, h1, h2, Int.add_mul, Int.neg_one_mul]
    rw [show ((p : Int) - 1) * (N : Int) + -(N : Int) = -(N : Int) + ((p : Int) - 1) * (N : Int) from Int.add_comm _ _, Int.add_mul_emod_self_left]
  omega

/-- .. and below 0 -/
theorem powz_ref_neg (p N : Nat) (a : Int) (hp : Num.Prime p) (h3 : 3 ≤ p) (hN : 0 < N) : powz p a (-(N : Int)) = Num.pwm p (invn p a) N := by
  by_cases hz : a % (p : Int) = 0
  · have he : el p a = 0 := by unfold el; rw [hz]; rfl
    unfold invn
    rw [powz_zero p a _ hz (by omega), he, pwm_zero_left p (p - 2) (by omega), pwm_zero_left p N (by omega)]
  · obtain ⟨a1, a2⟩ := emod_bounds a p h3
    unfold powz invn el
    rw [if_neg (fun h => hz h.1), Num.pwm_mul, ← neg_exp p N h3, Num.pwm_mod hp (by omega) (by omega)]

end Go.Proofs.Ytidkhgplejglaac
