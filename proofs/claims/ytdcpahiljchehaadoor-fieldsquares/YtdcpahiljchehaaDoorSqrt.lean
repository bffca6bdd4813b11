/- What the field's methods isSquare, leastNonSquare, someRoot and Sqrt answer: the least element whose square it is, just where there is one. -/
import Derived.Test.YtdcpahiljchehaaDoorRefB
import Derived.Test.YtdcpahiljchehaaDoorNumC
import Derived.Test.YtdcpahiljchehaaDoorTz
namespace Go.Proofs.YtdcpahiljchehaaDoor
open Go.RowKit Go.Shelf

theorem half_cast (p : Nat) (h3 : 3 ≤ p) : ((p : Int) - 1) / 2 = (((p - 1) / 2 : Nat) : Int) := by omega

/-- Pow of an element, however the number of factors is spelt -/
theorem pow_elem (p b s N : Nat) (n : Int) (w : World) (hpr : Num.Prime p) (h3 : 3 ≤ p) (hm : p ≤ 2147483647) (hp : w.cell? ⟨b, 0, none⟩ = some (.int .i64 p)) (hs : s < p) (hn : n = (N : Int)) (hN : N ≤ 9223372036854775807) :
    Calls Tryd.prog 26 #[.pointer (some ⟨b, 0, none⟩), .int .i64 s, .int .i64 n] w fun e w' => e = .returned (.int .i64 (Num.pwm p s N)) ∧ w' = w := by
  subst hn
  have := pow_any p b (s : Int) (N : Int) w h3 hm hp (by omega) (by omega) (by omega) (by omega)
  rw [powz_ref_nat p N (s : Int) hpr h3, el_nat p s hs] at this
  exact this

/-- a product modulo p -/
def mm (p x y : Nat) : Nat := x * y % p
theorem mm_lt {p x y : Nat} (h : 0 < p) : mm p x y < p := Nat.mod_lt _ h

theorem mul_elem (p b x y : Nat) (w : World) (h3 : 3 ≤ p) (hm : p ≤ 2147483647) (hp : w.cell? ⟨b, 0, none⟩ = some (.int .i64 p)) (hx : x < p) (hy : y < p) :
    Calls Tryd.prog 16 #[.pointer (some ⟨b, 0, none⟩), .int .i64 x, .int .i64 y] w fun e w' => e = .returned (.int .i64 (mm p x y)) ∧ w' = w := by
  have := mul_any p b (x : Int) (y : Int) w h3 hm hp (by omega) (by omega) (by omega) (by omega)
  rw [show (x : Int) * (y : Int) % (p : Int) = ((x * y % p : Nat) : Int) from by simp] at this
  exact this

/-- whether half of p - 1 factors make 1 -/
def isSq (p s : Nat) : Bool := Num.pwm p s ((p - 1) / 2) == 1

set_option maxHeartbeats 400000 in
theorem issq_any (p b s : Nat) (w : World) (hpr : Num.Prime p) (h3 : 3 ≤ p) (hm : p ≤ 2147483647) (hp : w.cell? ⟨b, 0, none⟩ = some (.int .i64 p)) (hs : s < p) :
    Calls Tryd.prog 40 #[.pointer (some ⟨b, 0, none⟩), .int .i64 s] w fun e w' => e = .returned (.bool (isSq p s)) ∧ w' = w := by
  have hpw := hid (pow_elem p b s ((p - 1) / 2) (((p : Int) - 1) / 2) w hpr h3 hm hp hs (half_cast p h3) (by omega))
  have hb : Hid (isSq p s = (((Num.pwm p s ((p - 1) / 2) : Nat) : Int) == 1)) := by
    unfold Hid isSq; rw [Bool.eq_iff_iff, beq_iff_eq, beq_iff_eq]; omega
  generalize Num.pwm p s ((p - 1) / 2) = r at *
  clear hpr
  go_enter Tryd.func40, Tryd.ntmps40
  go_wp2_with fail
  refine hpw.out.mono ?_
  rintro e w' ⟨rfl, rfl⟩
  go_wp2_with fail
  go_ret
  exact ⟨ret_bool hb.out.symm, rfl⟩

theorem isSq_true {p s : Nat} : isSq p s = true ↔ Num.pwm p s ((p - 1) / 2) = 1 := by unfold isSq; rw [beq_iff_eq]

set_option maxHeartbeats 400000 in
theorem nonsq_any (p b : Nat) (w : World) (hpr : Num.Prime p) (h3 : 3 ≤ p) (hm : p ≤ 2147483647) (hp : w.cell? ⟨b, 0, none⟩ = some (.int .i64 p)) :
    Calls Tryd.prog 47 #[.pointer (some ⟨b, 0, none⟩)] w fun e w' => ∃ z : Nat, e = .returned (.int .i64 z) ∧ 1 ≤ z ∧ z < p ∧ Num.pwm p z ((p - 1) / 2) ≠ 1 ∧ w' = w := by
  have HEX := hid (Num.exists_nonres hpr (m := (p - 1) / 2) (by omega) (by omega))
  have HSQ : Hid (∀ s, s < p → Calls Tryd.prog 40 #[.pointer (some ⟨b, 0, none⟩), .int .i64 s] w fun e w' => e = .returned (.bool (isSq p s)) ∧ w' = w) := fun s hs => issq_any p b s w hpr h3 hm hp hs
  clear hpr
  go_enter Tryd.func47, Tryd.ntmps47
  go_wp2_with fail
  go_loop [8] (fun i => ∃ k : Nat, k ≤ p ∧ i = .int .i64 k ∧ Hid (∀ x, 1 ≤ x → x < k → Num.pwm p x ((p - 1) / 2) = 1)) (fun i => p - (intOf i).toNat)
  case atStart => exact ⟨0, Nat.zero_le _, rfl, hid (fun x h1 h2 => by omega)⟩
  case round =>
    obtain ⟨k, hk, rfl, hall⟩ := hrel
    by_cases hlt : k < p
    · have hlt2 : (k : Int) < (p : Int) := by omega
      by_cases hk0 : 0 < k
      · have hk02 : (0 : Int) < (k : Int) := by omega
        have hsq := hid (HSQ.out k hlt)
        by_cases hg : isSq p k = true
        · rw [hg] at hsq
          have HG := hid (isSq_true.1 hg)
          clear hg
          go_wp2_with fail
          refine hsq.out.mono ?_
          rintro e w2 ⟨rfl, rfl⟩
          go_wp2_with fail
          go_round
          case rel => exact ⟨k + 1, by omega, by go_num, fun x hx1 hx2 => by
            by_cases hxk : x = k
            · subst hxk; exact HG.out
            · exact hall.out x hx1 (by omega)⟩
          case measure => simp [intOf]; omega
        · have HG : Hid (Num.pwm p k ((p - 1) / 2) ≠ 1) := fun h => hg (isSq_true.2 h)
          rw [show isSq p k = false from by simpa using hg] at hsq
          clear hg
          go_wp2_with fail
          refine hsq.out.mono ?_
          rintro e w2 ⟨rfl, rfl⟩
          go_wp2_with fail
          go_ret
          exact ⟨k, rfl, hk0, hlt, HG.out, rfl⟩
      · have hk02 : ¬ (0 : Int) < (k : Int) := by omega
        have hdec : decide ((0 : Int) < (k : Int)) = false := by simpa using hk02
        go_wp2_with fail
        go_round
        case rel => exact ⟨k + 1, by omega, by go_num, fun x hx1 hx2 => by omega⟩
        case measure => simp [intOf]; omega
    · exfalso
      obtain ⟨z, h1, h2, h4⟩ := HEX.out
      exact h4 (hall.out z h1 (by omega))

theorem odd_cast (p S m : Nat) (h : p - 1 = 2 ^ S * (2 * m + 1)) (h3 : 3 ≤ p) : ((p : Int) - 1) / 2 ^ S = 2 * (m : Int) + 1 := by
  have e : ((p : Int) - 1) = ((p - 1 : Nat) : Int) := by omega
  have hpos : (2 : Int) ^ S ≠ 0 := Int.pow_ne_zero (by omega)
  rw [e, h]
  push_cast
  rw [Int.mul_ediv_cancel_left _ hpos]

theorem even_of_prime {p : Nat} (hp : Num.Prime p) (h3 : 3 ≤ p) : (p - 1) % 2 = 0 := by
  rcases Nat.mod_two_eq_zero_or_one p with g | g
  · rcases hp.2 2 (Nat.dvd_of_mod_eq_zero g) with h | h <;> omega
  · omega

theorem wrap_pow (k : Nat) (h : k ≤ 31) : wrap64 ((2 : Int) ^ k) = ((2 ^ k : Nat) : Int) := by
  have h1 : 2 ^ k ≤ 2 ^ 31 := Nat.pow_le_pow_right (by omega) h
  rw [show (2 : Int) ^ k = ((2 ^ k : Nat) : Int) from by simp]
  generalize 2 ^ k = x at *
  unfold wrap64
  omega

theorem pow_small (k : Nat) (h : k ≤ 31) : 2 ^ k ≤ 9223372036854775807 := by
  have h1 : 2 ^ k ≤ 2 ^ 31 := Nat.pow_le_pow_right (by omega) h
  omega

set_option maxHeartbeats 1000000 in
theorem someroot_any (p b s : Nat) (w : World) (hpr : Num.Prime p) (h3 : 3 ≤ p) (hm : p ≤ 2147483647) (hp : w.cell? ⟨b, 0, none⟩ = some (.int .i64 p)) (hT : TabAt 2 Lib.deBruijn64tab w)
    (_hs1 : 1 ≤ s) (hs : s < p) (hsq : Num.pwm p s ((p - 1) / 2) = 1) :
    Calls Tryd.prog 41 #[.pointer (some ⟨b, 0, none⟩), .int .i64 s] w fun e w' => ∃ r : Nat, e = .returned (.int .i64 r) ∧ r < p ∧ r * r % p = s ∧ w' = w := by
  have htz := hid (tz_any (p - 1) (by omega) (by omega) w hT)
  rw [show ((p - 1 : Nat) : Int) = (p : Int) - 1 from by omega] at htz
  have hev := even_of_prime hpr h3
  have HPW : Hid (∀ (s N : Nat) (n : Int), s < p → n = (N : Int) → N ≤ 9223372036854775807 → Calls Tryd.prog 26 #[.pointer (some ⟨b, 0, none⟩), .int .i64 s, .int .i64 n] w fun e w' => e = .returned (.int .i64 (Num.pwm p s N)) ∧ w' = w) :=
    fun s N n h1 h2 h4 => pow_elem p b s N n w hpr h3 hm hp h1 h2 h4
  have HMU : Hid (∀ (x y : Nat), x < p → y < p → Calls Tryd.prog 16 #[.pointer (some ⟨b, 0, none⟩), .int .i64 x, .int .i64 y] w fun e w' => e = .returned (.int .i64 (mm p x y)) ∧ w' = w) :=
    fun x y h1 h2 => mul_elem p b x y w h3 hm hp h1 h2
  have HNS := hid (nonsq_any p b w hpr h3 hm hp)
  have HP := hid hpr
  have HSQ := hid hsq
  clear hpr hsq hT
  go_enter Tryd.func41, Tryd.ntmps41
  go_wp2_with fail
  refine htz.out.mono ?_
  rintro e w' ⟨S', m, rfl, hS64, hS, rfl⟩
  clear htz
  obtain ⟨S, rfl⟩ : ∃ S, S' = S + 1 := by
    rcases Nat.eq_zero_or_pos S' with g | g
    · subst g; rw [Nat.pow_zero, Nat.one_mul] at hS; omega
    · exact ⟨S' - 1, by omega⟩
  have hm2 : 2 * m + 1 ≤ p - 1 := by
    have h1 : 1 ≤ 2 ^ (S + 1) := Nat.pow_pos (by omega)
    have h2 : 1 * (2 * m + 1) ≤ 2 ^ (S + 1) * (2 * m + 1) := Nat.mul_le_mul_right _ h1
    omega
  have hS31 : S < 31 := by
    rcases Nat.lt_or_ge S 31 with g | g
    · exact g
    · have h1 : 2 ^ 32 ≤ 2 ^ (S + 1) := Nat.pow_le_pow_right (by omega) (by omega)
      have h2 : 2 ^ (S + 1) * 1 ≤ 2 ^ (S + 1) * (2 * m + 1) := Nat.mul_le_mul_left _ (by omega)
      omega
  have hodd := odd_cast p (S + 1) m hS h3
  have HS := hid hS
  clear hS
  go_wp2_with fail
  refine (HPW.out s (m + 1) _ hs (by omega) (by omega)).mono ?_
  rintro e w1 ⟨rfl, rfl⟩
  go_wp2_with fail
  refine (HPW.out s (2 * m + 1) _ hs (by omega) (by omega)).mono ?_
  rintro e w2 ⟨rfl, rfl⟩
  go_wp2_with fail
  refine HNS.out.mono ?_
  rintro e w3 ⟨z, rfl, hz1, hz2, hz3, rfl⟩
  have HTI := hid (Num.TI.start HP.out HS.out hs hz1 hz2 HSQ.out hz3)
  clear hz3 HNS
  go_wp2_with fail
  refine (HPW.out z (2 * m + 1) _ hz2 (by omega) (by omega)).mono ?_
  rintro e w4 ⟨rfl, rfl⟩
  generalize Num.pwm p s (m + 1) = r0 at *
  generalize Num.pwm p s (2 * m + 1) = t0 at *
  generalize Num.pwm p z (2 * m + 1) = s0 at *
  clear hodd
  go_wp2_with fail
  go_loop [7, 8, 9, 44] (fun rv tv sv iv => ∃ i root rest step : Nat, i ≤ S ∧ rv = .int .i64 root ∧ tv = .int .i64 rest ∧ sv = .int .i64 step ∧ iv = .int .i64 i ∧ Hid (Num.TI p s (S - i) root rest step)) (fun _ _ _ iv => S - (intOf iv).toNat)
  case atStart => exact ⟨0, r0, t0, s0, Nat.zero_le _, rfl, rfl, rfl, rfl, HTI⟩
  case round =>
    obtain ⟨i, root, rest, step, hi, rfl, rfl, rfl, rfl, hti⟩ := hrel
    have l1 := hti.out.lroot
    have l2 := hti.out.lrest
    have l3 := hti.out.lstep
    by_cases hlt : i < S
    · have hlt2 : (i : Int) < (S : Int) := by omega
      obtain ⟨k, hk⟩ : ∃ k, S - i = k + 1 := ⟨S - i - 1, by omega⟩
      rw [hk] at hti
      have HK : Hid (S - (i + 1) = k) := hid (by omega)
      have hk2 : (S : Int) + 1 - 1 - (i : Int) = (k : Int) + 1 := by omega
      clear hk
      go_wp2_with fail
      refine (HMU.out step step l3 l3).mono ?_
      rintro e w5 ⟨rfl, rfl⟩
      go_wp2_with fail
      refine (HPW.out rest (2 ^ k) _ l2 (by rw [show S - i - 1 = k from by omega]; exact wrap_pow k (by omega)) (pow_small k (by omega))).mono ?_
      rintro e w6 ⟨rfl, rfl⟩
      by_cases hone : Num.pwm p rest (2 ^ k) = 1
      · have hb : (((Num.pwm p rest (2 ^ k) : Nat) : Int) != 1) = false := by rw [hone]; rfl
        have HST := hid (hti.out.stay (by omega) hone)
        generalize Num.pwm p rest (2 ^ k) = X at *
        clear hone
        go_wp2_with fail
        go_round
        case rel => exact ⟨i + 1, root, rest, mm p step step, by omega, rfl, rfl, rfl, by go_num, by unfold Hid; rw [HK.out]; exact HST.out⟩
        case measure => simp [intOf]; omega
      · have hb : (((Num.pwm p rest (2 ^ k) : Nat) : Int) != 1) = true := by rw [bne_iff_ne]; omega
        have HST := hid (hti.out.turn HP.out hone)
        generalize Num.pwm p rest (2 ^ k) = X at *
        clear hone
        have l4 : mm p step step < p := mm_lt (by omega)
        go_wp2_with fail
        refine (HMU.out root step l1 l3).mono ?_
        rintro e w7 ⟨rfl, rfl⟩
        go_wp2_with fail
        refine (HMU.out rest (mm p step step) l2 l4).mono ?_
        rintro e w8 ⟨rfl, rfl⟩
        go_wp2_with fail
        go_round
        case rel => exact ⟨i + 1, mm p root step, mm p rest (mm p step step), mm p step step, by omega, rfl, rfl, rfl, by go_num, by unfold Hid; rw [HK.out]; exact HST.out⟩
        case measure => simp [intOf]; omega
    · have hlt2 : ¬ (i : Int) < (S : Int) := by omega
      have hD : Hid (Num.TI p s 0 root rest step) := by
        have := hti.out
        rw [show S - i = 0 from by omega] at this
        exact this
      go_wp2_with fail
      go_ret
      exact ⟨root, rfl, l1, hD.out.done hs, rfl⟩

/-- what Sqrt answers -/
def SqrtIs (p s r : Nat) : Prop := r < p ∧ r ≤ p - r ∧ r * r % p = s

theorem neg_cast (p r : Nat) (h1 : 1 ≤ r) (h : r < p) : (0 - (r : Int)) % (p : Int) = ((p - r : Nat) : Int) := by
  have e : (0 - (r : Int)) = ((p - r : Nat) : Int) + (p : Int) * (-1) := by omega
  rw [e, Int.add_mul_emod_self_left, Int.emod_eq_of_lt (by omega) (by omega)]

theorem neg_sq (p r : Nat) (h : r < p) : (p - r) * (p - r) % p = r * r % p := by
  obtain ⟨d, rfl⟩ : ∃ d, p = r + d := ⟨p - r, by omega⟩
  rw [Nat.add_sub_cancel_left]
  have e : d * d + (r + d) * r = r * r + (r + d) * d := by grind
  have h1 : (d * d + (r + d) * r) % (r + d) = d * d % (r + d) := Nat.add_mul_mod_self_left _ _ _
  have h2 : (r * r + (r + d) * d) % (r + d) = r * r % (r + d) := Nat.add_mul_mod_self_left _ _ _
  rw [← h1, e, h2]

theorem sqrtIs_min {p s r : Nat} (hr : r < p) (_h1 : 1 ≤ r) (h : r * r % p = s) : SqrtIs p s (min r (p - r)) := by
  rcases Nat.le_total r (p - r) with g | g
  · rw [Nat.min_eq_left g]; exact ⟨hr, g, h⟩
  · rw [Nat.min_eq_right g]; exact ⟨by omega, by omega, by rw [neg_sq p r hr]; exact h⟩

set_option maxHeartbeats 400000 in
theorem sqrt_zero (p b : Nat) (a : Int) (w : World) (h3 : 3 ≤ p) (hm : p ≤ 2147483647) (hp : w.cell? ⟨b, 0, none⟩ = some (.int .i64 p)) (ha : -9223372036854775808 ≤ a) (ha2 : a ≤ 9223372036854775807) (hz : a % (p : Int) = 0) :
    Calls Tryd.prog 32 #[.pointer (some ⟨b, 0, none⟩), .int .i64 a] w fun e w' => e = .returned (.tuple #[.int .i64 0, .bool true]) ∧ w' = w := by
  have hof := hid (of_any p b a w h3 hm hp ha ha2)
  rw [hz] at hof
  clear hz
  go_enter Tryd.func32, Tryd.ntmps32
  go_wp2_with fail
  refine hof.out.mono ?_
  rintro e w' ⟨rfl, rfl⟩
  go_wp2_with fail
  go_ret2
  exact ⟨rfl, rfl⟩

set_option maxHeartbeats 400000 in
theorem sqrt_no (p b : Nat) (a : Int) (w : World) (hpr : Num.Prime p) (h3 : 3 ≤ p) (hm : p ≤ 2147483647) (hp : w.cell? ⟨b, 0, none⟩ = some (.int .i64 p)) (ha : -9223372036854775808 ≤ a) (ha2 : a ≤ 9223372036854775807) (hz : a % (p : Int) ≠ 0) (hsq : isSq p (el p a) = false) :
    Calls Tryd.prog 32 #[.pointer (some ⟨b, 0, none⟩), .int .i64 a] w fun e w' => e = .returned (.tuple #[.int .i64 0, .bool false]) ∧ w' = w := by
  have hof := hid (of_any p b a w h3 hm hp ha ha2)
  rw [← el_cast p a h3] at hof hz
  have his := hid (issq_any p b (el p a) w hpr h3 hm hp (el_lt p a h3))
  rw [hsq] at his
  clear hsq hpr
  generalize el p a = s at *
  have hzb : ((s : Int) == 0) = false := by rw [beq_eq_false_iff_ne]; exact hz
  clear hz
  go_enter Tryd.func32, Tryd.ntmps32
  go_wp2_with fail
  refine hof.out.mono ?_
  rintro e w' ⟨rfl, rfl⟩
  go_wp2_with fail
  refine his.out.mono ?_
  rintro e w' ⟨rfl, rfl⟩
  go_wp2_with fail
  go_ret2
  exact ⟨rfl, rfl⟩

set_option maxHeartbeats 400000 in
theorem sqrt_yes (p b : Nat) (a : Int) (w : World) (hpr : Num.Prime p) (h3 : 3 ≤ p) (hm : p ≤ 2147483647) (hp : w.cell? ⟨b, 0, none⟩ = some (.int .i64 p)) (hT : TabAt 2 Lib.deBruijn64tab w) (ha : -9223372036854775808 ≤ a) (ha2 : a ≤ 9223372036854775807) (hz : a % (p : Int) ≠ 0) (hsq : isSq p (el p a) = true) :
    Calls Tryd.prog 32 #[.pointer (some ⟨b, 0, none⟩), .int .i64 a] w fun e w' => ∃ r : Nat, e = .returned (.tuple #[.int .i64 r, .bool true]) ∧ SqrtIs p (el p a) r ∧ w' = w := by
  have hof := hid (of_any p b a w h3 hm hp ha ha2)
  rw [← el_cast p a h3] at hof hz
  have hlt := el_lt p a h3
  have his := hid (issq_any p b (el p a) w hpr h3 hm hp hlt)
  rw [hsq] at his
  have hso := hid (someroot_any p b (el p a) w hpr h3 hm hp hT (by omega) hlt (isSq_true.1 hsq))
  clear hsq hpr hT
  generalize el p a = s at *
  have hzb : ((s : Int) == 0) = false := by rw [beq_eq_false_iff_ne]; exact hz
  have hs1 : 1 ≤ s := by omega
  clear hz
  go_enter Tryd.func32, Tryd.ntmps32
  go_wp2_with fail
  refine hof.out.mono ?_
  rintro e w' ⟨rfl, rfl⟩
  go_wp2_with fail
  refine his.out.mono ?_
  rintro e w' ⟨rfl, rfl⟩
  go_wp2_with fail
  refine hso.out.mono ?_
  rintro e w' ⟨r, rfl, hr, hrr, rfl⟩
  have hr1 : 1 ≤ r := by
    rcases Nat.eq_zero_or_pos r with g | g
    · subst g; simp at hrr; omega
    · exact g
  have HR := hid (sqrtIs_min hr hr1 hrr)
  have hng := hid (neg_any p b (r : Int) w' h3 hm hp (by omega) (by omega))
  rw [neg_cast p r hr1 hr] at hng
  clear hrr
  go_wp2_with fail
  refine hng.out.mono ?_
  rintro e w2 ⟨rfl, rfl⟩
  go_wp2_with fail
  go_ret2
  refine ⟨min r (p - r), ?_, HR.out, rfl⟩
  rw [show ((min r (p - r) : Nat) : Int) = min (r : Int) ((p - r : Nat) : Int) from by omega]
  rfl

end Go.Proofs.YtdcpahiljchehaaDoor
