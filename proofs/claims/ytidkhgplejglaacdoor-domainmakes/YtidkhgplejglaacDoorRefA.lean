/- What package attestref1 answers of elements and powers, and what makes 1 of an element. -/
import Derived.Test.YtidkhgplejglaacDoorPow
namespace Go.Proofs.YtidkhgplejglaacDoor
open Go.RowKit

set_option maxHeartbeats 400000 in
theorem rof_any (p : Nat) (n : Int) (w : World) (h3 : 3 ≤ p) (hm : p ≤ 2147483647) (_hn : -9223372036854775808 ≤ n) (_hn2 : n ≤ 9223372036854775807) :
    Calls Tryd.prog 38 #[.int .i64 p, .int .i64 n] w fun e w' => e = .returned (.int .i64 (n % p)) ∧ w' = w := by
  obtain ⟨hb1, hb2⟩ := tmod_bounds n p (by omega)
  by_cases h1 : 0 ≤ n
  · have hb3 := Int.emod_nonneg n (b := (p : Int)) (by omega)
    clear hb1 hb2
    go_enter Tryd.func38, Tryd.ntmps38
    go_wp2_with fail
    go_ret
    exact ⟨rfl, rfl⟩
  · by_cases h2 : n.tmod p < 0
    · have he : Hid (n.tmod p + p = n % p) := hid (tmod_neg_fix n p (by omega) h2)
      have hs1 : 0 ≤ n.tmod p + p := by omega
      go_enter Tryd.func38, Tryd.ntmps38
      go_wp2_with fail
      go_ret
      exact ⟨ret_int he.out, rfl⟩
    · have he : Hid (n.tmod p = n % p) := hid (tmod_pos_fix n p (by omega) h2)
      go_enter Tryd.func38, Tryd.ntmps38
      go_wp2_with fail
      go_ret
      exact ⟨ret_int he.out, rfl⟩

theorem el_cast (p : Nat) (a : Int) (h3 : 3 ≤ p) : ((el p a : Nat) : Int) = a % p := by
  have := (emod_bounds a p h3).1; unfold el; omega
theorem el_lt (p : Nat) (a : Int) (h3 : 3 ≤ p) : el p a < p := by
  have := emod_bounds a p h3; unfold el; omega
theorem el_self (p : Nat) (a : Int) : el p (a % p) = el p a := by
  unfold el; rw [Int.emod_emod_of_dvd _ (Int.dvd_refl _)]

theorem half_facts (N i : Nat) : N / 2 ^ i / 2 = N / 2 ^ (i + 1) := by rw [Nat.div_div_eq_div_mul, Nat.pow_succ]

set_option maxHeartbeats 400000 in
theorem rpow_nat (p N : Nat) (a : Int) (w : World) (h3 : 3 ≤ p) (hm : p ≤ 2147483647) (ha : -9223372036854775808 ≤ a) (ha2 : a ≤ 9223372036854775807) (hN : N ≤ 9223372036854775807) :
    Calls Tryd.prog 55 #[.int .i64 p, .int .i64 a, .int .i64 N] w fun e w' => e = .returned (.int .i64 (Num.pwm p (el p a) N)) ∧ w' = w := by
  have hof := hid (rof_any p a w h3 hm ha ha2)
  rw [← el_cast p a h3] at hof
  have hlt := el_lt p a h3
  generalize el p a = s at *
  go_enter Tryd.func55, Tryd.ntmps55
  go_wp2_with fail
  refine hof.out.mono ?_
  rintro e w' ⟨rfl, rfl⟩
  clear hof
  go_wp2_with fail
  go_loop [1, 2, 7] (fun av nv xv => ∃ i m : Nat, m ≤ 9223372036854775807 ∧ Hid (m = N / 2 ^ i) ∧ av = .int .i64 (Num.pwm p s (2 ^ i)) ∧ nv = .int .i64 m ∧ xv = .int .i64 (Num.pwm p s (N % 2 ^ i))) (fun _ nv _ => (intOf nv).toNat)
  case atStart => exact ⟨0, N, hN, hid (by simp), by rw [Nat.pow_zero, Num.pwm_one p s (by omega)], rfl, by rw [Nat.pow_zero, Nat.mod_one, Num.pwm_zero p s (by omega)]; rfl⟩
  case round =>
    obtain ⟨i, m, hm2, hmi, rfl, rfl, rfl⟩ := hrel
    have hl1 := Num.pwm_lt p s (2 ^ i) (by omega)
    have hl2 := Num.pwm_lt p s (N % 2 ^ i) (by omega)
    have hsq := hid (pwm_addz p s (2 ^ i) (2 ^ i))
    have hml := hid (pwm_addz p s (N % 2 ^ i) (2 ^ i))
    have hmp := hid (mod_two_pow_succ N i)
    have hpow : Hid (2 ^ (i + 1) = 2 ^ i + 2 ^ i) := by unfold Hid; rw [Nat.pow_succ]; omega
    generalize hA : Num.pwm p s (2 ^ i) = A at *
    generalize hX : Num.pwm p s (N % 2 ^ i) = X at *
    have HA := hid hA
    have HX := hid hX
    clear hA hX
    obtain ⟨c1, c2⟩ := mul_small (A : Int) (A : Int) (by omega) (by omega) (by omega) (by omega)
    obtain ⟨d1, d2⟩ := mul_small (X : Int) (A : Int) (by omega) (by omega) (by omega) (by omega)
    by_cases h0 : m = 0
    · subst h0
      have hN2 : N < 2 ^ i := by
        have h1 := hmi.out
        have h2 : 0 < 2 ^ i := Nat.pow_pos (by omega)
        exact (Nat.div_eq_zero_iff_lt h2).1 h1.symm
      have HF := hid hN2
      clear hN2
      go_wp2_with fail
      go_ret
      exact ⟨ret_int (by rw [← HX.out, Nat.mod_eq_of_lt HF.out]), rfl⟩
    · have h0b : ((m : Int) != 0) = true := by rw [bne_iff_ne]; omega
      have hd1 : 0 ≤ (m : Int) / 2 := by omega
      have hd2 : (m : Int) / 2 ≤ 9223372036854775807 := by omega
      by_cases hodd : m % 2 = 1
      · have hob : ((m : Int) % 2 != 0) = true := by rw [bne_iff_ne]; omega
        have hbit : Hid (N / 2 ^ i % 2 = 1) := by unfold Hid; rw [← hmi.out]; exact hodd
        clear hodd
        go_wp2_with fail
        go_round
        case rel => exact ⟨i + 1, m / 2, by omega, by unfold Hid; rw [hmi.out]; exact half_facts N i, by rw [hpow.out, ← hsq.out], by go_num, by rw [hmp.out, hbit.out, Nat.mul_one, ← hml.out]⟩
        case measure => simp [intOf]; omega
      · have hob : ((m : Int) % 2 != 0) = false := by rw [bne_eq_false_iff_eq]; omega
        have hbit : Hid (N / 2 ^ i % 2 = 0) := by unfold Hid; rw [← hmi.out]; omega
        clear hodd
        go_wp2_with fail
        go_round
        case rel => exact ⟨i + 1, m / 2, by omega, by unfold Hid; rw [hmi.out]; exact half_facts N i, by rw [hpow.out, ← hsq.out], by go_num, by rw [hmp.out, hbit.out, Nat.mul_zero, Nat.add_zero, HX.out]⟩
        case measure => simp [intOf]; omega

theorem el_bounds (p : Nat) (a : Int) (h3 : 3 ≤ p) (hm : p ≤ 2147483647) : -9223372036854775808 ≤ ((el p a : Nat) : Int) ∧ ((el p a : Nat) : Int) ≤ 9223372036854775807 := by
  have := el_lt p a h3; omega

/-- what makes 1 of an element -/
def invn (p : Nat) (a : Int) : Nat := Num.pwm p (el p a) (p - 2)

theorem invn_lt (p : Nat) (a : Int) (h3 : 3 ≤ p) : invn p a < p := Num.pwm_lt _ _ _ (by omega)

set_option maxHeartbeats 400000 in
theorem rinv_any (p : Nat) (a : Int) (w : World) (h3 : 3 ≤ p) (hm : p ≤ 2147483647) (ha : -9223372036854775808 ≤ a) (ha2 : a ≤ 9223372036854775807) :
    Calls Tryd.prog 67 #[.int .i64 p, .int .i64 a] w fun e w' => e = .returned (.int .i64 (invn p a)) ∧ w' = w := by
  have hpw := hid (rpow_nat p (p - 2) a w h3 hm ha ha2 (by omega))
  rw [show ((p - 2 : Nat) : Int) = (p : Int) - 2 from by omega] at hpw
  go_enter Tryd.func67, Tryd.ntmps67
  go_wp2_with fail
  refine hpw.out.mono ?_
  rintro e w' ⟨rfl, rfl⟩
  go_wp2_with fail
  go_ret
  exact ⟨rfl, rfl⟩

theorem neg_tmod (m : Nat) : (-(m : Int)).tmod 2 = -((m % 2 : Nat) : Int) := by
  rw [Int.neg_tmod, Int.tmod_eq_emod_of_nonneg (by omega)]; simp
theorem neg_tdiv (m : Nat) : (-(m : Int)).tdiv 2 = -((m / 2 : Nat) : Int) := by
  rw [Int.neg_tdiv, Int.tdiv_eq_ediv_of_nonneg (by omega)]; simp

/-- the number in a slot, its sign aside -/
def absOf (v : Value) : Nat := (intOf v).natAbs

set_option maxHeartbeats 400000 in
theorem rpow_neg (p N : Nat) (a : Int) (w : World) (h3 : 3 ≤ p) (hm : p ≤ 2147483647) (ha : -9223372036854775808 ≤ a) (ha2 : a ≤ 9223372036854775807) (hN0 : 0 < N) (hN : N ≤ 9223372036854775808) :
    Calls Tryd.prog 55 #[.int .i64 p, .int .i64 a, .int .i64 (-(N : Int))] w fun e w' => e = .returned (.int .i64 (Num.pwm p (invn p a) N)) ∧ w' = w := by
  have hof := hid (rof_any p a w h3 hm ha ha2)
  have hbe := emod_bounds a p h3
  have hinv := hid (rinv_any p (a % p) w h3 hm (by omega) (by omega))
  have hself : invn p (a % p) = invn p a := by unfold invn; rw [el_self]
  rw [hself] at hinv
  have hlt := invn_lt p a h3
  clear hself hbe
  generalize invn p a = s at *
  have hneg : -(N : Int) < 0 := by omega
  go_enter Tryd.func55, Tryd.ntmps55
  go_wp2_with fail
  refine hof.out.mono ?_
  rintro e w' ⟨rfl, rfl⟩
  clear hof
  go_wp2_with fail
  refine hinv.out.mono ?_
  rintro e w' ⟨rfl, rfl⟩
  clear hinv
  go_wp2_with fail
  go_loop [1, 2, 7] (fun av nv xv => ∃ i m : Nat, m ≤ 9223372036854775808 ∧ Hid (m = N / 2 ^ i) ∧ av = .int .i64 (Num.pwm p s (2 ^ i)) ∧ nv = .int .i64 (-(m : Int)) ∧ xv = .int .i64 (Num.pwm p s (N % 2 ^ i))) (fun _ nv _ => absOf nv)
  case atStart => exact ⟨0, N, hN, hid (by simp), by rw [Nat.pow_zero, Num.pwm_one p s (by omega)], rfl, by rw [Nat.pow_zero, Nat.mod_one, Num.pwm_zero p s (by omega)]; rfl⟩
  case round =>
    obtain ⟨i, m, hm2, hmi, rfl, rfl, rfl⟩ := hrel
    have hl1 := Num.pwm_lt p s (2 ^ i) (by omega)
    have hl2 := Num.pwm_lt p s (N % 2 ^ i) (by omega)
    have hsq := hid (pwm_addz p s (2 ^ i) (2 ^ i))
    have hml := hid (pwm_addz p s (N % 2 ^ i) (2 ^ i))
    have hmp := hid (mod_two_pow_succ N i)
    have hpow : Hid (2 ^ (i + 1) = 2 ^ i + 2 ^ i) := by unfold Hid; rw [Nat.pow_succ]; omega
    generalize hA : Num.pwm p s (2 ^ i) = A at *
    generalize hX : Num.pwm p s (N % 2 ^ i) = X at *
    have HA := hid hA
    have HX := hid hX
    clear hA hX
    obtain ⟨c1, c2⟩ := mul_small (A : Int) (A : Int) (by omega) (by omega) (by omega) (by omega)
    obtain ⟨d1, d2⟩ := mul_small (X : Int) (A : Int) (by omega) (by omega) (by omega) (by omega)
    by_cases h0 : m = 0
    · subst h0
      have hN2 : N < 2 ^ i := by
        have h1 := hmi.out
        have h2 : 0 < 2 ^ i := Nat.pow_pos (by omega)
        exact (Nat.div_eq_zero_iff_lt h2).1 h1.symm
      have HF := hid hN2
      clear hN2
      go_wp2_with fail
      go_ret
      exact ⟨ret_int (by rw [← HX.out, Nat.mod_eq_of_lt HF.out]), rfl⟩
    · have h0b : (-(m : Int) != 0) = true := by rw [bne_iff_ne]; omega
      have hd1 : -4611686018427387904 ≤ (-(m : Int)).tdiv 2 := by rw [neg_tdiv]; omega
      have hd2 : (-(m : Int)).tdiv 2 ≤ 0 := by rw [neg_tdiv]; omega
      by_cases hodd : m % 2 = 1
      · have hob : ((-(m : Int)).tmod 2 != 0) = true := by rw [neg_tmod, hodd]; rfl
        have hob2 : (-((m : Int) % 2) != 0) = true := by rw [bne_iff_ne]; omega
        have hbit : Hid (N / 2 ^ i % 2 = 1) := by unfold Hid; rw [← hmi.out]; exact hodd
        clear hodd
        go_wp2_with fail
        go_round
        case rel => exact ⟨i + 1, m / 2, by omega, by unfold Hid; rw [hmi.out]; exact half_facts N i, by rw [hpow.out, ← hsq.out], by go_num, by rw [hmp.out, hbit.out, Nat.mul_one, ← hml.out]⟩
        case measure => simp only [absOf, intOf]; omega
      · have hev : m % 2 = 0 := by omega
        have hob : ((-(m : Int)).tmod 2 != 0) = false := by rw [neg_tmod, hev]; rfl
        have hob2 : (-((m : Int) % 2) != 0) = false := by rw [bne_eq_false_iff_eq]; omega
        have hbit : Hid (N / 2 ^ i % 2 = 0) := by unfold Hid; rw [← hmi.out]; omega
        clear hodd hev
        go_wp2_with fail
        go_round
        case rel => exact ⟨i + 1, m / 2, by omega, by unfold Hid; rw [hmi.out]; exact half_facts N i, by rw [hpow.out, ← hsq.out], by go_num, by rw [hmp.out, hbit.out, Nat.mul_zero, Nat.add_zero, HX.out]⟩
        case measure => simp only [absOf, intOf]; omega

theorem pwm_zero_left (p n : Nat) (hn : n ≠ 0) : Num.pwm p 0 n = 0 := by
  unfold Num.pwm; rw [Nat.zero_pow (by omega), Nat.zero_mod]

theorem powz_zero (p : Nat) (a n : Int) (h : a % (p : Int) = 0) (hn : n ≠ 0) : powz p a n = 0 := by unfold powz; rw [if_pos ⟨h, hn⟩]

/-- Pow and attestref1.Pow are one, from 0 on -/
theorem powz_ref_nat (p N : Nat) (a : Int) (hp : Num.Prime p) (h3 : 3 ≤ p) : powz p a N = Num.pwm p (el p a) N := by
  by_cases hz : a % (p : Int) = 0
  · have he : el p a = 0 := by unfold el; rw [hz]; rfl
    by_cases hN : N = 0
    · subst hN
      unfold powz
      rw [if_neg (by simp), he, hz]
      simp
    · rw [powz_zero p a N hz (by omega), he, pwm_zero_left p N hN]
  · obtain ⟨a1, a2⟩ := emod_bounds a p h3
    have e : (N : Int) % ((p : Int) - 1) = ((N % (p - 1) : Nat) : Int) := by
      rw [show (p : Int) - 1 = ((p - 1 : Nat) : Int) from by omega]; simp
    unfold powz el
    rw [if_neg (fun h => hz h.1), e, Int.toNat_natCast, Num.pwm_mod hp (by omega) (by omega)]

theorem inv_ref (p : Nat) (a : Int) (hp : Num.Prime p) (h3 : 3 ≤ p) : powz p a ((p : Int) - 2) = invn p a := by
  rw [show (p : Int) - 2 = ((p - 2 : Nat) : Int) from by omega, powz_ref_nat p (p - 2) a hp h3]; rfl

theorem neg_exp (p N : Nat) (h3 : 3 ≤ p) : ((p - 2) * N) % (p - 1) = ((-(N : Int)) % ((p : Int) - 1)).toNat := by
  have e : (((p - 2) * N % (p - 1) : Nat) : Int) = (-(N : Int)) % ((p : Int) - 1) := by
    have h1 : ((p - 1 : Nat) : Int) = (p : Int) - 1 := by omega
    have h2 : ((p - 2 : Nat) : Int) = ((p : Int) - 1) + (-1) := by omega
    rw [Int.natCast_emod, Int.natCast_mul, h1, h2, Int.add_mul, Int.neg_one_mul]
    rw [show ((p : Int) - 1) * (N : Int) + -(N : Int) = -(N : Int) + ((p : Int) - 1) * (N : Int) from Int.add_comm _ _, Int.add_mul_emod_self_left]
  omega

/-- .. and below 0 -/
theorem powz_ref_neg (p N : Nat) (a : Int) (hp : Num.Prime p) (h3 : 3 ≤ p) (hN : 0 < N) : powz p a (-(N : Int)) = Num.pwm p (invn p a) N := by
  by_cases hz : a % (p : Int) = 0
  · have he : el p a = 0 := by unfold el; rw [hz]; rfl
    unfold invn
    rw [powz_zero p a _ hz (by omega), he, pwm_zero_left p (p - 2) (by omega), pwm_zero_left p N (by omega)]
  · obtain ⟨a1, a2⟩ := emod_bounds a p h3
    unfold powz invn el
    rw [if_neg (fun h => hz h.1), Num.pwm_mul, ← neg_exp p N h3, Num.pwm_mod hp (by omega) (by omega)]

end Go.Proofs.YtidkhgplejglaacDoor
