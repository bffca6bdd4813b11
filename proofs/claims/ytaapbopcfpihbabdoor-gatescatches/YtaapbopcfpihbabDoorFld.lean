/- What remainder, leastDivisor, and the methods Of and Mul of a field do, for every input that the program gives them: the world stays as it is. What bits.Len answers in this program, by the library's own contract: the number of halvings till nothing is left; and that a number is below that power of 2. What the methods Pow and Inv of a field answer: so many equal factors modulo p, the number of factors taken modulo p - 1. What primeDivisors answers: a new list of the primes that divide its number; nothing that was there has turned. What New answers: of a prime that may be a field, of any other number none. What the methods Order, isGenerator and Generator of a field answer. What package attestref1 answers of elements and powers, and what makes 1 of an element. What package attestref1 answers of sums, differences, products and quotients; and the field's methods Add, Sub, Neg, Div. What attestref1.Order, Generator and Root and the field's methods Root and P answer: the same on both sides. What attestref1.Generator and Root and the field's methods Root and P answer. What a walk says of memory: lists that can be read, lists of the call's own, and worlds in which one block alone has turned. attestsame.Ints: whether two lists of numbers are the same, for every two lists that can be read; nothing turns. Lists that are gathered by append: what they hold can be read. errors.As at a target that is a variable of type api.Errno, by the text of the library itself: a nil error is none; an error that is an api.Errno is put into the variable. Then plain.Told and attestsame.Error by it. plain.Told, attestsame.Error, attestref1.Prime and attestsame.Field by their contracts: of a prime that may be there is a field, of any other number there is none, and both sides say so. -/
import Derived.Test.YtaapbopcfpihbabDoorRows
import Derived.Test.YtaapbopcfpihbabDoorPlain
import Derived.KernelRfl
import Derived.WalkKit
import Derived.WalkSpells
import Derived.WalkLawsBesides
import Derived.Shelf.Small.Bits
import Derived.Lib.BitFns
import Derived.Test.YtaapbopcfpihbabDoorProg
import Derived.Deep.RegionWith
import Derived.WalkSmall
import Derived.Deep.QuietTactic
import Derived.BigQuiet
import Derived.Deep.OwnRows
import Derived.LaidEql
import Derived.Stop.Asserts
import Derived.RowKitTokens
namespace Go.Proofs.YtaapbopcfpihbabDoor
open Go.RowKit

theorem Tryd.infoInt : (Tryd.prog.info? 3).map (fun i => (i.zero, i.size, i.bytes)) = some (some (.int .i64 0), 1, 8) := by kernel_rfl

theorem hid {p : Prop} (h : p) : Hid p := h

theorem ret_int {k : IntKind} {a b : Int} (h : a = b) : Ending.returned (.int k a) = .returned (.int k b) := by rw [h]

theorem tmod_neg_fix (n m : Int) (hm : 0 < m) (h : n.tmod m < 0) : n.tmod m + m = n % m := by
  have e := Int.tmod_eq_emod (a := n) (b := m)
  have h1 := Int.emod_nonneg n (b := m) (by omega)
  split at e
  · omega
  · have : (m.natAbs : Int) = m := by omega
    omega

theorem tmod_pos_fix (n m : Int) (hm : 0 < m) (h : ¬ n.tmod m < 0) : n.tmod m = n % m := by
  have e := Int.tmod_eq_emod (a := n) (b := m)
  have h2 := Int.emod_lt_of_pos n hm
  split at e
  · omega
  · have : (m.natAbs : Int) = m := by omega
    omega

theorem tmod_bounds (n m : Int) (hm : 0 < m) : -m ≤ n.tmod m ∧ n.tmod m < m := by
  have h1 := Int.emod_nonneg n (b := m) (by omega)
  have h2 := Int.emod_lt_of_pos n hm
  by_cases h : n.tmod m < 0
  · have := tmod_neg_fix n m hm h; omega
  · have := tmod_pos_fix n m hm h; omega

set_option maxHeartbeats 400000 in
theorem rem_any (n m : Int) (w : World) (hm : 0 < m) (hm2 : m ≤ 2147483647) (_hn : -9223372036854775808 ≤ n) (_hn2 : n ≤ 9223372036854775807) :
    Calls Tryd.prog 51 #[.int .i64 n, .int .i64 m] w fun e w' => e = .returned (.int .i64 (n % m)) ∧ w' = w := by
  by_cases h1 : 0 ≤ n
  · by_cases h2 : n < m
    · have he : Hid (n % m = n) := hid (Int.emod_eq_of_lt h1 h2)
      go_enter Tryd.func51, Tryd.ntmps51
      go_wp2
      go_ret
      exact ⟨ret_int he.out.symm, rfl⟩
    · have hb1 := Int.emod_nonneg n (b := m) (by omega)
      go_enter Tryd.func51, Tryd.ntmps51
      go_wp2
      go_ret
      exact ⟨rfl, rfl⟩
  · obtain ⟨hb1, hb2⟩ := tmod_bounds n m hm
    by_cases h2 : n.tmod m < 0
    · have he : Hid (n.tmod m + m = n % m) := hid (tmod_neg_fix n m hm h2)
      have hs1 : 0 ≤ n.tmod m + m := by omega
      go_enter Tryd.func51, Tryd.ntmps51
      go_wp2
      go_ret
      exact ⟨ret_int he.out, rfl⟩
    · have he : Hid (n.tmod m = n % m) := hid (tmod_pos_fix n m hm h2)
      go_enter Tryd.func51, Tryd.ntmps51
      go_wp2
      go_ret
      exact ⟨ret_int he.out, rfl⟩

/-- leastDivisor: the least divisor from 2 on. -/
theorem sq_le (k n : Nat) (h : k * k ≤ n) (hn : n ≤ 2147483647) : k ≤ 46340 := by
  rcases Nat.lt_or_ge 46340 k with g | g
  · have : 46341 * 46341 ≤ k * k := Nat.mul_le_mul g g
    omega
  · exact g

set_option maxHeartbeats 400000 in
theorem least_any (n : Nat) (w : World) (h2 : 2 ≤ n) (hm : n ≤ 2147483647) :
    Calls Tryd.prog 30 #[.int .i64 n] w fun e w' => ∃ d : Nat, e = .returned (.int .i64 d) ∧ Num.Least n d ∧ w' = w := by
  go_enter Tryd.func30, Tryd.ntmps30
  go_wp2
  go_loop [3] (fun i => ∃ k : Nat, 2 ≤ k ∧ k ≤ 46341 ∧ i = .int .i64 k ∧ ∀ e, 2 ≤ e → e < k → ¬ e ∣ n) (fun i => 46341 - (intOf i).toNat)
  case atStart => exact ⟨2, by omega, by omega, rfl, fun e h g => by omega⟩
  case round =>
    obtain ⟨k, hk2, hk, rfl, hno⟩ := hrel
    have HN := hid hno
    clear hno
    have hsq : ((k : Int) * k) = ((k * k : Nat) : Int) := by simp
    have hkk : k * k ≤ 46341 * 46341 := Nat.mul_le_mul hk hk
    have hq1 : 0 ≤ (k : Int) * k := by omega
    have hq2 : (k : Int) * k ≤ 2147488281 := by omega
    by_cases hle : k * k ≤ n
    · have hk3 := sq_le k n hle hm
      have hle2 : (k : Int) * k ≤ n := by omega
      clear hsq hle hkk
      by_cases hd : k ∣ n
      · have hmod : ((n : Int) % (k : Int) == 0) = true := by
          rw [beq_iff_eq]; exact Int.emod_eq_zero_of_dvd (Int.ofNat_dvd.2 hd)
        have HD := hid hd
        clear hd
        go_wp2
        go_ret
        exact ⟨k, rfl, ⟨hk2, HD.out, HN.out⟩, rfl⟩
      · have hmod : ((n : Int) % (k : Int) == 0) = false := by
          rw [beq_eq_false_iff_ne]; intro g; exact hd (Int.ofNat_dvd.1 (Int.dvd_of_emod_eq_zero g))
        have HD := hid hd
        clear hd
        go_wp2
        go_round
        case rel => exact ⟨k + 1, by omega, by omega, by go_num, fun e he hlt hde => by
          by_cases hek : e = k
          · subst hek; exact HD.out hde
          · exact HN.out e he (by omega) hde⟩
        case measure => simp [intOf]; omega
    · have hle2 : ¬ (k : Int) * k ≤ n := by omega
      have HL := hid hle
      clear hsq hle hkk
      go_wp2
      go_ret
      exact ⟨n, rfl, Num.least_self h2 (Nat.lt_of_not_le HL.out) HN.out, rfl⟩

set_option maxHeartbeats 400000 in
theorem of_any (p b : Nat) (n : Int) (w : World) (h3 : 3 ≤ p) (hm : p ≤ 2147483647) (hp : w.cell? ⟨b, 0, none⟩ = some (.int .i64 p))
    (hn : -9223372036854775808 ≤ n) (hn2 : n ≤ 9223372036854775807) :
    Calls Tryd.prog 29 #[.pointer (some ⟨b, 0, none⟩), .int .i64 n] w fun e w' => e = .returned (.int .i64 (n % p)) ∧ w' = w := by
  go_enter Tryd.func29, Tryd.ntmps29
  go_wp2_with (go_at_call 51; refine (rem_any n p w (by omega) (by omega) hn hn2).mono ?_; rintro e w' ⟨rfl, rfl⟩)
  go_ret
  exact ⟨rfl, rfl⟩

theorem emod_bounds (n : Int) (p : Nat) (h3 : 3 ≤ p) : 0 ≤ n % (p : Int) ∧ n % (p : Int) < p :=
  ⟨Int.emod_nonneg _ (by omega), Int.emod_lt_of_pos _ (by omega)⟩

theorem mul_small (x y : Int) (hx : 0 ≤ x) (hx2 : x ≤ 2147483647) (hy : 0 ≤ y) (hy2 : y ≤ 2147483647) : 0 ≤ x * y ∧ x * y ≤ 4611686014132420609 := by
  refine ⟨Int.mul_nonneg hx hy, ?_⟩
  have : x * y ≤ 2147483647 * 2147483647 := Int.mul_le_mul hx2 hy2 hy (by omega)
  omega

set_option maxHeartbeats 400000 in
theorem mul_any (p b : Nat) (x y : Int) (w : World) (h3 : 3 ≤ p) (hm : p ≤ 2147483647) (hp : w.cell? ⟨b, 0, none⟩ = some (.int .i64 p))
    (hx : -9223372036854775808 ≤ x) (hx2 : x ≤ 9223372036854775807) (hy : -9223372036854775808 ≤ y) (hy2 : y ≤ 9223372036854775807) :
    Calls Tryd.prog 49 #[.pointer (some ⟨b, 0, none⟩), .int .i64 x, .int .i64 y] w fun e w' => e = .returned (.int .i64 (x * y % p)) ∧ w' = w := by
  obtain ⟨a1, a2⟩ := emod_bounds x p h3
  obtain ⟨b1, b2⟩ := emod_bounds y p h3
  obtain ⟨c1, c2⟩ := mul_small (x % p) (y % p) a1 (by omega) b1 (by omega)
  go_enter Tryd.func49, Tryd.ntmps49
  go_wp2_with fail
  refine (of_any p b x w h3 hm hp hx hx2).mono ?_
  rintro e w' ⟨rfl, rfl⟩
  go_wp2_with fail
  refine (of_any p b y _ h3 hm hp hy hy2).mono ?_
  rintro e w' ⟨rfl, rfl⟩
  go_wp2_with fail
  refine (of_any p b _ _ h3 hm hp (by omega) (by omega)).mono ?_
  rintro e w' ⟨rfl, rfl⟩
  go_wp2
  go_ret
  exact ⟨ret_int (Int.mul_emod x y p).symm, rfl⟩

end Go.Proofs.YtaapbopcfpihbabDoor

namespace Go.Proofs
open Go.Shelf
end Go.Proofs

namespace Go.Proofs.YtaapbopcfpihbabDoor
open Go.RowKit

theorem pwm_addz (p s x y : Nat) : (Num.pwm p s x : Int) * (Num.pwm p s y : Int) % (p : Int) = (Num.pwm p s (x + y) : Int) := by
  rw [← Num.pwm_add]; simp
theorem mod_two_pow_succ (E k : Nat) : E % 2 ^ (k + 1) = E % 2 ^ k + 2 ^ k * (E / 2 ^ k % 2) := Nat.mod_pow_succ

/-- the element as a number -/
def el (p : Nat) (a : Int) : Nat := (a % (p : Int)).toNat

end Go.Proofs.YtaapbopcfpihbabDoor

namespace Go.Proofs.YtaapbopcfpihbabDoor
open Go.RowKit

/-- numbers as cells -/
def cellsOf (ds : List Nat) : List Value := ds.map (fun d : Nat => Value.int .i64 d)

end Go.Proofs.YtaapbopcfpihbabDoor

namespace Go.Proofs.YtaapbopcfpihbabDoor
open Go.RowKit

/-- a number that is a prime that may be -/
def okPrime (p : Int) : Prop := 3 ≤ p ∧ p ≤ 2147483647 ∧ Num.Prime p.toNat

set_option maxHeartbeats 400000 in
theorem new_no (p : Int) (w : World) (hno : ¬ okPrime p) (h1 : -9223372036854775808 ≤ p) (h2 : p ≤ 9223372036854775807) :
    Calls Tryd.prog 12 #[.int .i64 p] w fun e w' => e = .returned (.tuple #[.pointer none, .iface 50 (.int .i64 1)]) ∧ w' = w := by
  by_cases h3 : p < 3
  · go_enter Tryd.func12, Tryd.ntmps12
    go_wp2_with fail
    go_ret2
    exact ⟨rfl, rfl⟩
  · by_cases h4 : 2147483647 < p
    · go_enter Tryd.func12, Tryd.ntmps12
      go_wp2_with fail
      go_ret2
      exact ⟨rfl, rfl⟩
    · obtain ⟨q, rfl⟩ := Int.eq_ofNat_of_zero_le (show 0 ≤ p by omega)
      have HN := hid hno
      clear hno
      go_enter Tryd.func12, Tryd.ntmps12
      go_wp2_with fail
      refine (least_any q _ (by omega) (by omega)).mono ?_
      rintro e w1 ⟨d, rfl, hl, rfl⟩
      have hne : ((d : Int) != (q : Int)) = true := by
        rw [bne_iff_ne]; intro g
        have g2 : d = q := by omega
        subst g2
        exact HN.out ⟨by omega, by omega, by rw [Int.toNat_natCast]; exact Num.least_prime hl⟩
      clear hl
      go_wp2_with fail
      go_ret2
      exact ⟨rfl, rfl⟩

set_option maxHeartbeats 400000 in
theorem new_yes (q : Nat) (w : World) (h3 : 3 ≤ q) (h4 : q ≤ 2147483647) (hq : Num.Prime q) :
    Calls Tryd.prog 12 #[.int .i64 q] w fun e w' => e = .returned (.tuple #[.pointer (some ⟨w.heap.size, 0, none⟩), .nilIface]) ∧ w'.cell? ⟨w.heap.size, 0, none⟩ = some (.int .i64 q) ∧ Below w.heap.size w w' ∧ w.heap.size < w'.heap.size := by
  have HQ := hid hq
  clear hq
  go_enter Tryd.func12, Tryd.ntmps12
  go_wp2_with fail
  refine (least_any q _ (by omega) (by omega)).mono ?_
  rintro e w1 ⟨d, rfl, hl, rfl⟩
  have hdq := Num.least_unique hl (Num.prime_least HQ.out)
  subst hdq
  clear hl
  go_wp2_with fail
  go_ret2
  exact ⟨rfl, by simp, (Below.refl _ _).alloc (Nat.le_refl _) _, by simp⟩

end Go.Proofs.YtaapbopcfpihbabDoor

namespace Go.Proofs.YtaapbopcfpihbabDoor
open Go.RowKit

end Go.Proofs.YtaapbopcfpihbabDoor

namespace Go.Proofs.YtaapbopcfpihbabDoor
open Go.RowKit

set_option maxHeartbeats 400000 in
theorem rof_any (p : Nat) (n : Int) (w : World) (h3 : 3 ≤ p) (hm : p ≤ 2147483647) (_hn : -9223372036854775808 ≤ n) (_hn2 : n ≤ 9223372036854775807) :
    Calls Tryd.prog 21 #[.int .i64 p, .int .i64 n] w fun e w' => e = .returned (.int .i64 (n % p)) ∧ w' = w := by
  obtain ⟨hb1, hb2⟩ := tmod_bounds n p (by omega)
  by_cases h1 : 0 ≤ n
  · have hb3 := Int.emod_nonneg n (b := (p : Int)) (by omega)
    clear hb1 hb2
    go_enter Tryd.func21, Tryd.ntmps21
    go_wp2_with fail
    go_ret
    exact ⟨rfl, rfl⟩
  · by_cases h2 : n.tmod p < 0
    · have he : Hid (n.tmod p + p = n % p) := hid (tmod_neg_fix n p (by omega) h2)
      have hs1 : 0 ≤ n.tmod p + p := by omega
      go_enter Tryd.func21, Tryd.ntmps21
      go_wp2_with fail
      go_ret
      exact ⟨ret_int he.out, rfl⟩
    · have he : Hid (n.tmod p = n % p) := hid (tmod_pos_fix n p (by omega) h2)
      go_enter Tryd.func21, Tryd.ntmps21
      go_wp2_with fail
      go_ret
      exact ⟨ret_int he.out, rfl⟩

theorem el_cast (p : Nat) (a : Int) (h3 : 3 ≤ p) : ((el p a : Nat) : Int) = a % p := by
  have := (emod_bounds a p h3).1; unfold el; omega
theorem el_lt (p : Nat) (a : Int) (h3 : 3 ≤ p) : el p a < p := by
  have := emod_bounds a p h3; unfold el; omega
theorem half_facts (N i : Nat) : N / 2 ^ i / 2 = N / 2 ^ (i + 1) := by rw [Nat.div_div_eq_div_mul, Nat.pow_succ]

set_option maxHeartbeats 400000 in
theorem rpow_nat (p N : Nat) (a : Int) (w : World) (h3 : 3 ≤ p) (hm : p ≤ 2147483647) (ha : -9223372036854775808 ≤ a) (ha2 : a ≤ 9223372036854775807) (hN : N ≤ 9223372036854775807) :
    Calls Tryd.prog 71 #[.int .i64 p, .int .i64 a, .int .i64 N] w fun e w' => e = .returned (.int .i64 (Num.pwm p (el p a) N)) ∧ w' = w := by
  have hof := hid (rof_any p a w h3 hm ha ha2)
  rw [← el_cast p a h3] at hof
  have hlt := el_lt p a h3
  generalize el p a = s at *
  go_enter Tryd.func71, Tryd.ntmps71
  go_wp2_with fail
  refine hof.out.mono ?_
  rintro e w' ⟨rfl, rfl⟩
  clear hof
  go_wp2_with fail
  go_loop [1, 2, 7] (fun av nv xv => ∃ i m : Nat, m ≤ 9223372036854775807 ∧ Hid (m = N / 2 ^ i) ∧ av = .int .i64 (Num.pwm p s (2 ^ i)) ∧ nv = .int .i64 m ∧ xv = .int .i64 (Num.pwm p s (N % 2 ^ i))) (fun _ nv _ => (intOf nv).toNat)
  case atStart => exact ⟨0, N, hN, hid (by simp), by rw [Nat.pow_zero, Num.pwm_one p s (by omega)], rfl, by rw [Nat.pow_zero, Nat.mod_one, Num.pwm_zero p s (by omega)]; rfl⟩
  case round =>
    obtain ⟨i, m, hm2, hmi, rfl, rfl, rfl⟩ := hrel
    have hl1 := Num.pwm_lt p s (2 ^ i) (by omega)
    have hl2 := Num.pwm_lt p s (N % 2 ^ i) (by omega)
    have hsq := hid (pwm_addz p s (2 ^ i) (2 ^ i))
    have hml := hid (pwm_addz p s (N % 2 ^ i) (2 ^ i))
    have hmp := hid (mod_two_pow_succ N i)
    have hpow : Hid (2 ^ (i + 1) = 2 ^ i + 2 ^ i) := by unfold Hid; rw [Nat.pow_succ]; omega
    generalize hA : Num.pwm p s (2 ^ i) = A at *
    generalize hX : Num.pwm p s (N % 2 ^ i) = X at *
    have HA := hid hA
    have HX := hid hX
    clear hA hX
    obtain ⟨c1, c2⟩ := mul_small (A : Int) (A : Int) (by omega) (by omega) (by omega) (by omega)
    obtain ⟨d1, d2⟩ := mul_small (X : Int) (A : Int) (by omega) (by omega) (by omega) (by omega)
    by_cases h0 : m = 0
    · subst h0
      have hN2 : N < 2 ^ i := by
        have h1 := hmi.out
        have h2 : 0 < 2 ^ i := Nat.pow_pos (by omega)
        exact (Nat.div_eq_zero_iff_lt h2).1 h1.symm
      have HF := hid hN2
      clear hN2
      go_wp2_with fail
      go_ret
      exact ⟨ret_int (by rw [← HX.out, Nat.mod_eq_of_lt HF.out]), rfl⟩
    · have h0b : ((m : Int) != 0) = true := by rw [bne_iff_ne]; omega
      have hd1 : 0 ≤ (m : Int) / 2 := by omega
      have hd2 : (m : Int) / 2 ≤ 9223372036854775807 := by omega
      by_cases hodd : m % 2 = 1
      · have hob : ((m : Int) % 2 != 0) = true := by rw [bne_iff_ne]; omega
        have hbit : Hid (N / 2 ^ i % 2 = 1) := by unfold Hid; rw [← hmi.out]; exact hodd
        clear hodd
        go_wp2_with fail
        go_round
        case rel => exact ⟨i + 1, m / 2, by omega, by unfold Hid; rw [hmi.out]; exact half_facts N i, by rw [hpow.out, ← hsq.out], by go_num, by rw [hmp.out, hbit.out, Nat.mul_one, ← hml.out]⟩
        case measure => simp [intOf]; omega
      · have hob : ((m : Int) % 2 != 0) = false := by rw [bne_eq_false_iff_eq]; omega
        have hbit : Hid (N / 2 ^ i % 2 = 0) := by unfold Hid; rw [← hmi.out]; omega
        clear hodd
        go_wp2_with fail
        go_round
        case rel => exact ⟨i + 1, m / 2, by omega, by unfold Hid; rw [hmi.out]; exact half_facts N i, by rw [hpow.out, ← hsq.out], by go_num, by rw [hmp.out, hbit.out, Nat.mul_zero, Nat.add_zero, HX.out]⟩
        case measure => simp [intOf]; omega

/-- what makes 1 of an element -/
def invn (p : Nat) (a : Int) : Nat := Num.pwm p (el p a) (p - 2)

theorem invn_lt (p : Nat) (a : Int) (h3 : 3 ≤ p) : invn p a < p := Num.pwm_lt _ _ _ (by omega)

set_option maxHeartbeats 400000 in
theorem rinv_any (p : Nat) (a : Int) (w : World) (h3 : 3 ≤ p) (hm : p ≤ 2147483647) (ha : -9223372036854775808 ≤ a) (ha2 : a ≤ 9223372036854775807) :
    Calls Tryd.prog 58 #[.int .i64 p, .int .i64 a] w fun e w' => e = .returned (.int .i64 (invn p a)) ∧ w' = w := by
  have hpw := hid (rpow_nat p (p - 2) a w h3 hm ha ha2 (by omega))
  rw [show ((p - 2 : Nat) : Int) = (p : Int) - 2 from by omega] at hpw
  go_enter Tryd.func58, Tryd.ntmps58
  go_wp2_with fail
  refine hpw.out.mono ?_
  rintro e w' ⟨rfl, rfl⟩
  go_wp2_with fail
  go_ret
  exact ⟨rfl, rfl⟩

end Go.Proofs.YtaapbopcfpihbabDoor

namespace Go.Proofs.YtaapbopcfpihbabDoor
open Go.RowKit

set_option maxHeartbeats 400000 in
theorem radd_any (p : Nat) (x y : Int) (w : World) (h3 : 3 ≤ p) (hm : p ≤ 2147483647)
    (hx : -9223372036854775808 ≤ x) (hx2 : x ≤ 9223372036854775807) (hy : -9223372036854775808 ≤ y) (hy2 : y ≤ 9223372036854775807) :
    Calls Tryd.prog 7 #[.int .i64 p, .int .i64 x, .int .i64 y] w fun e w' => e = .returned (.int .i64 ((x + y) % p)) ∧ w' = w := by
  obtain ⟨a1, a2⟩ := emod_bounds x p h3
  obtain ⟨b1, b2⟩ := emod_bounds y p h3
  go_enter Tryd.func7, Tryd.ntmps7
  go_wp2_with fail
  refine (rof_any p x w h3 hm hx hx2).mono ?_
  rintro e w' ⟨rfl, rfl⟩
  go_wp2_with fail
  refine (rof_any p y _ h3 hm hy hy2).mono ?_
  rintro e w' ⟨rfl, rfl⟩
  go_wp2_with fail
  go_ret
  exact ⟨ret_int (Int.add_emod x y p).symm, rfl⟩

theorem sub_fix (x y : Int) (p : Nat) : (x % p + p - y % p) % (p : Int) = (x - y) % p := by
  rw [Int.sub_emod x y p, show x % (p : Int) + p - y % p = (x % p - y % p) + p from by omega, Int.add_emod_right]

set_option maxHeartbeats 400000 in
theorem rsub_any (p : Nat) (x y : Int) (w : World) (h3 : 3 ≤ p) (hm : p ≤ 2147483647)
    (hx : -9223372036854775808 ≤ x) (hx2 : x ≤ 9223372036854775807) (hy : -9223372036854775808 ≤ y) (hy2 : y ≤ 9223372036854775807) :
    Calls Tryd.prog 24 #[.int .i64 p, .int .i64 x, .int .i64 y] w fun e w' => e = .returned (.int .i64 ((x - y) % p)) ∧ w' = w := by
  obtain ⟨a1, a2⟩ := emod_bounds x p h3
  obtain ⟨b1, b2⟩ := emod_bounds y p h3
  have hf := hid (sub_fix x y p)
  go_enter Tryd.func24, Tryd.ntmps24
  go_wp2_with fail
  refine (rof_any p x w h3 hm hx hx2).mono ?_
  rintro e w' ⟨rfl, rfl⟩
  go_wp2_with fail
  refine (rof_any p y _ h3 hm hy hy2).mono ?_
  rintro e w' ⟨rfl, rfl⟩
  go_wp2_with fail
  go_ret
  exact ⟨ret_int hf.out, rfl⟩

set_option maxHeartbeats 400000 in
theorem rmul_any (p : Nat) (x y : Int) (w : World) (h3 : 3 ≤ p) (hm : p ≤ 2147483647)
    (hx : -9223372036854775808 ≤ x) (hx2 : x ≤ 9223372036854775807) (hy : -9223372036854775808 ≤ y) (hy2 : y ≤ 9223372036854775807) :
    Calls Tryd.prog 25 #[.int .i64 p, .int .i64 x, .int .i64 y] w fun e w' => e = .returned (.int .i64 (x * y % p)) ∧ w' = w := by
  obtain ⟨a1, a2⟩ := emod_bounds x p h3
  obtain ⟨b1, b2⟩ := emod_bounds y p h3
  obtain ⟨c1, c2⟩ := mul_small (x % p) (y % p) a1 (by omega) b1 (by omega)
  go_enter Tryd.func25, Tryd.ntmps25
  go_wp2_with fail
  refine (rof_any p x w h3 hm hx hx2).mono ?_
  rintro e w' ⟨rfl, rfl⟩
  go_wp2_with fail
  refine (rof_any p y _ h3 hm hy hy2).mono ?_
  rintro e w' ⟨rfl, rfl⟩
  go_wp2_with fail
  go_ret
  exact ⟨ret_int (Int.mul_emod x y p).symm, rfl⟩

set_option maxHeartbeats 400000 in
theorem add_any (p b : Nat) (x y : Int) (w : World) (h3 : 3 ≤ p) (hm : p ≤ 2147483647) (hp : w.cell? ⟨b, 0, none⟩ = some (.int .i64 p))
    (hx : -9223372036854775808 ≤ x) (hx2 : x ≤ 9223372036854775807) (hy : -9223372036854775808 ≤ y) (hy2 : y ≤ 9223372036854775807) :
    Calls Tryd.prog 36 #[.pointer (some ⟨b, 0, none⟩), .int .i64 x, .int .i64 y] w fun e w' => e = .returned (.int .i64 ((x + y) % p)) ∧ w' = w := by
  obtain ⟨a1, a2⟩ := emod_bounds x p h3
  obtain ⟨b1, b2⟩ := emod_bounds y p h3
  go_enter Tryd.func36, Tryd.ntmps36
  go_wp2_with fail
  refine (of_any p b x w h3 hm hp hx hx2).mono ?_
  rintro e w' ⟨rfl, rfl⟩
  go_wp2_with fail
  refine (of_any p b y _ h3 hm hp hy hy2).mono ?_
  rintro e w' ⟨rfl, rfl⟩
  go_wp2_with fail
  refine (of_any p b _ _ h3 hm hp (by omega) (by omega)).mono ?_
  rintro e w' ⟨rfl, rfl⟩
  go_wp2_with fail
  go_ret
  exact ⟨rfl, rfl⟩

set_option maxHeartbeats 400000 in
theorem sub_any (p b : Nat) (x y : Int) (w : World) (h3 : 3 ≤ p) (hm : p ≤ 2147483647) (hp : w.cell? ⟨b, 0, none⟩ = some (.int .i64 p))
    (hx : -9223372036854775808 ≤ x) (hx2 : x ≤ 9223372036854775807) (hy : -9223372036854775808 ≤ y) (hy2 : y ≤ 9223372036854775807) :
    Calls Tryd.prog 50 #[.pointer (some ⟨b, 0, none⟩), .int .i64 x, .int .i64 y] w fun e w' => e = .returned (.int .i64 ((x - y) % p)) ∧ w' = w := by
  obtain ⟨a1, a2⟩ := emod_bounds x p h3
  obtain ⟨b1, b2⟩ := emod_bounds y p h3
  go_enter Tryd.func50, Tryd.ntmps50
  go_wp2_with fail
  refine (of_any p b x w h3 hm hp hx hx2).mono ?_
  rintro e w' ⟨rfl, rfl⟩
  go_wp2_with fail
  refine (of_any p b y _ h3 hm hp hy hy2).mono ?_
  rintro e w' ⟨rfl, rfl⟩
  go_wp2_with fail
  refine (of_any p b _ _ h3 hm hp (by omega) (by omega)).mono ?_
  rintro e w' ⟨rfl, rfl⟩
  go_wp2_with fail
  go_ret
  exact ⟨rfl, rfl⟩

theorem rdiv_any (p : Nat) (x y : Int) (w : World) (h3 : 3 ≤ p) (hm : p ≤ 2147483647)
    (hx : -9223372036854775808 ≤ x) (hx2 : x ≤ 9223372036854775807) (hy : -9223372036854775808 ≤ y) (hy2 : y ≤ 9223372036854775807) :
    Calls Tryd.prog 44 #[.int .i64 p, .int .i64 x, .int .i64 y] w fun e w' => e = .returned (.int .i64 (x * (invn p y : Int) % p)) ∧ w' = w := by
  have hl := invn_lt p y h3
  have hi := hid (rinv_any p y w h3 hm hy hy2)
  have hmu := hid (rmul_any p x (invn p y) w h3 hm hx hx2 (by omega) (by omega))
  generalize invn p y = t at *
  go_enter Tryd.func44, Tryd.ntmps44
  go_wp2_with fail
  refine hi.out.mono ?_
  rintro e w' ⟨rfl, rfl⟩
  go_wp2_with fail
  refine hmu.out.mono ?_
  rintro e w' ⟨rfl, rfl⟩
  go_wp2_with fail
  go_ret
  exact ⟨rfl, rfl⟩

end Go.Proofs.YtaapbopcfpihbabDoor

namespace Go.Proofs.YtaapbopcfpihbabDoor
open Go.RowKit

end Go.Proofs.YtaapbopcfpihbabDoor

namespace Go.Proofs.YtaapbopcfpihbabDoor
open Go.RowKit

end Go.Proofs.YtaapbopcfpihbabDoor

namespace Go.Proofs.YtaapbopcfpihbabDoor
open Go.RowKit

/-- what stands at a place -/
def zat (zs : List Int) (i : Nat) : Int := zs[i]?.getD 0

/-- a list that can be read, in a block of which P holds -/
def RowP (P : Nat → Prop) (w : World) (a : Option Addr) (zs : List Int) : Prop :=
  ∀ k, k < zs.length → ∃ b o, a = some ⟨b, o, none⟩ ∧ P b ∧ w.cell? ⟨b, o + k, none⟩ = some (.int .i64 (zat zs k))
/-- a list that can be read, below n0 -/
def RowB (n0 : Nat) (w : World) (a : Option Addr) (zs : List Int) : Prop :=
  ∀ k, k < zs.length → ∃ b o, a = some ⟨b, o, none⟩ ∧ b < n0 ∧ w.cell? ⟨b, o + k, none⟩ = some (.int .i64 (zat zs k))
theorem RowB.below {n0 : Nat} {A B : World} {a : Option Addr} {zs : List Int} (h : Below n0 A B) (r : RowB n0 A a zs) : RowB n0 B a zs := by
  intro k hk
  obtain ⟨b, o, h1, h2, h3⟩ := r k hk
  exact ⟨b, o, h1, h2, (h.cell (p := ⟨b, o + k, none⟩) h2).trans h3⟩
theorem RowB.mono {n0 n1 : Nat} {A : World} {a : Option Addr} {zs : List Int} (h : n0 ≤ n1) (r : RowB n0 A a zs) : RowB n1 A a zs := by
  intro k hk
  obtain ⟨b, o, h1, h2, h3⟩ := r k hk
  exact ⟨b, o, h1, by omega, h3⟩
theorem RowB.p {n0 : Nat} {P : Nat → Prop} {A : World} {a : Option Addr} {zs : List Int} (h : ∀ b, b < n0 → P b) (r : RowB n0 A a zs) : RowP P A a zs := by
  intro k hk
  obtain ⟨b, o, h1, h2, h3⟩ := r k hk
  exact ⟨b, o, h1, h b h2, h3⟩

/-- block g alone has turned, and there is no new one -/
structure Only (g : Nat) (w w' : World) : Prop where
  os : w'.os = w.os
  tape : w'.tape = w.tape
  output : w'.output = w.output
  size : w'.heap.size = w.heap.size
  block : ∀ k, k ≠ g → w'.heap[k]? = w.heap[k]?

theorem Only.refl (g : Nat) (w : World) : Only g w w := ⟨rfl, rfl, rfl, rfl, fun _ _ => rfl⟩
theorem Only.trans {g : Nat} {a b c : World} (h : Only g a b) (k : Only g b c) : Only g a c :=
  ⟨k.os.trans h.os, k.tape.trans h.tape, k.output.trans h.output, k.size.trans h.size, fun i hi => (k.block i hi).trans (h.block i hi)⟩
theorem Only.drew {g : Nat} {a w : World} (h : Only g a w) : Only g a w.drew := ⟨h.os, h.tape, h.output, h.size, h.block⟩
theorem Only.setCell {g : Nat} {a w : World} (h : Only g a w) {p : Addr} (hp : p.block = g) (u : Value) : Only g a (w.setCell p u) :=
  h.trans ⟨rfl, rfl, rfl, by simp [World.setCell], fun k hk => Below.heap_setCell _ _ _ _ (by omega)⟩
theorem Only.cell {g : Nat} {w w' : World} (h : Only g w w') {p : Addr} (hp : p.block ≠ g) : w'.cell? p = w.cell? p := World.cell?_of_block (w := w) (h.block p.block hp)
theorem Only.frozen {g : Nat} {w w' : World} (h : Only g w w') {p : Addr} (hp : p.block ≠ g) : w'.frozen? p = w.frozen? p := World.frozen?_of_block (w := w) (h.block p.block hp)
theorem Only.below {g n0 : Nat} {w w' : World} (h : Only g w w') (hg : n0 ≤ g) : Below n0 w w' :=
  ⟨h.os, h.tape, h.output, by rw [h.size]; exact Nat.le_refl _, fun k hk => h.block k (by omega)⟩
theorem RowP.only {g : Nat} {P : Nat → Prop} {A B : World} {a : Option Addr} {zs : List Int} (h : Only g A B) (hP : ∀ b, P b → b ≠ g) (r : RowP P A a zs) : RowP P B a zs := by
  intro k hk
  obtain ⟨b, o, h1, h2, h3⟩ := r k hk
  exact ⟨b, o, h1, h2, (h.cell (p := ⟨b, o + k, none⟩) (hP b h2)).trans h3⟩

/-- one place turned -/
def up (f : Nat → Int) (i : Nat) (x : Int) : Nat → Int := fun j => if j = i then x else f j

/-- n cells of the call's own, from o on in block g -/
structure Cells (g o n : Nat) (f : Nat → Int) (W : World) : Prop where
  cells : ∀ j, j < n → W.cell? ⟨g, o + j, none⟩ = some (.int .i64 (f j))
  soft : ∀ j, j < n → W.frozen? ⟨g, o + j, none⟩ = false

theorem Cells.set {g o n : Nat} {f : Nat → Int} {W : World} (h : Cells g o n f W) {i : Nat} (x : Int) (hi : i < n) : Cells g o n (up f i x) (W.setCell ⟨g, o + i, none⟩ (.int .i64 x)) := by
  refine ⟨fun j hj => ?_, fun j hj => by rw [World.frozen?_setCell]; exact h.soft j hj⟩
  unfold up
  by_cases hji : j = i
  · subst hji; rw [if_pos rfl]; exact World.cell?_setCell_same _ _ _ (h.cells j hj)
  · rw [if_neg hji, World.cell?_setCell_other _ _ _ _ (by intro e; injection e with _ h2 _; omega)]; exact h.cells j hj
theorem Cells.congr {g o n : Nat} {f f' : Nat → Int} {W : World} (h : Cells g o n f W) (e : ∀ j, j < n → f j = f' j) : Cells g o n f' W :=
  ⟨fun j hj => by rw [← e j hj]; exact h.cells j hj, h.soft⟩
theorem Cells.block {g o n : Nat} {f : Nat → Int} {W W' : World} (h : Cells g o n f W) (e : W'.heap[g]? = W.heap[g]?) : Cells g o n f W' :=
  ⟨fun j hj => (World.cell?_of_block (w := W) (a := ⟨g, o + j, none⟩) e).trans (h.cells j hj), fun j hj => (World.frozen?_of_block (w := W) (a := ⟨g, o + j, none⟩) e).trans (h.soft j hj)⟩
theorem Cells.only {g g' o n : Nat} {f : Nat → Int} {W W' : World} (h : Cells g o n f W) (e : Only g' W W') (hg : g ≠ g') : Cells g o n f W' := h.block (e.block g hg)
theorem Cells.below {g o n n0 : Nat} {f : Nat → Int} {W W' : World} (h : Cells g o n f W) (e : Below n0 W W') (hg : g < n0) : Cells g o n f W' := h.block (e.block g hg)
theorem Cells.drew {g o n : Nat} {f : Nat → Int} {W : World} (h : Cells g o n f W) : Cells g o n f W.drew := ⟨h.cells, h.soft⟩
theorem Cells.less {g o n m : Nat} {f : Nat → Int} {W : World} (h : Cells g o n f W) (e : m ≤ n) : Cells g o m f W := ⟨fun j hj => h.cells j (by omega), fun j hj => h.soft j (by omega)⟩
theorem Cells.row {g n : Nat} {f : Nat → Int} {W : World} (h : Cells g 0 n f W) {zs : List Int} (hn : zs.length ≤ n) (hz : ∀ j, j < zs.length → zat zs j = f j) {n0 : Nat} (hg : g < n0) : RowB n0 W (some ⟨g, 0, none⟩) zs :=
  fun k hk => ⟨g, 0, rfl, hg, by rw [hz k hk]; exact h.cells k (by omega)⟩

/-- a list in a block from n0 on -/
def NewR (n0 : Nat) (w : World) (a : Option Addr) (zs : List Int) : Prop := RowP (fun b => n0 ≤ b ∧ b < w.heap.size) w a zs
theorem NewR.row {n0 : Nat} {w : World} {a : Option Addr} {zs : List Int} (h : NewR n0 w a zs) : RowB w.heap.size w a zs := fun k hk => by
  obtain ⟨b, o, h1, h2, h3⟩ := h k hk
  exact ⟨b, o, h1, h2.2, h3⟩
theorem NewR.below {n0 : Nat} {w w' : World} {a : Option Addr} {zs : List Int} (h : NewR n0 w a zs) (e : Below w.heap.size w w') : NewR n0 w' a zs := fun k hk => by
  obtain ⟨b, o, h1, h2, h3⟩ := h k hk
  exact ⟨b, o, h1, ⟨h2.1, Nat.lt_of_lt_of_le h2.2 e.size⟩, (e.cell (p := ⟨b, o + k, none⟩) h2.2).trans h3⟩
/-- numbers that an int holds -/
def Fits (zs : List Int) : Prop := ∀ j, j < zs.length → -9223372036854775808 ≤ zat zs j ∧ zat zs j ≤ 9223372036854775807
theorem Fits.all {zs : List Int} (h : Fits zs) (j : Nat) : -9223372036854775808 ≤ zat zs j ∧ zat zs j ≤ 9223372036854775807 := by
  by_cases hj : j < zs.length
  · exact h j hj
  · simp [zat, show zs.length ≤ j from by omega]

end Go.Proofs.YtaapbopcfpihbabDoor

namespace Go.Proofs.YtaapbopcfpihbabDoor
open Go.RowKit

end Go.Proofs.YtaapbopcfpihbabDoor

namespace Go.Proofs.YtaapbopcfpihbabDoor
open Go.RowKit

/-- a new list that is owned can be read -/
theorem rowB_of_owns {w : World} {base : Nat} {v : Value} {zs : List Int} (h : w.ownsRow base 3 1 v zs.length (zs.map (Value.int .i64))) : ∃ a cap, v = .slice a zs.length cap ∧ RowB w.heap.size w a zs := by
  rcases h.2 with ⟨h1, h2⟩ | ⟨g, cap, cur, hv, _, hg, _⟩
  · refine ⟨none, 0, by rw [h1, h2], fun k hk => by omega⟩
  · refine ⟨some ⟨g, 0, none⟩, cap, hv, fun k hk => ⟨g, 0, rfl, (Array.getElem?_eq_some_iff.1 hg).1, ?_⟩⟩
    have := h.cells (g := g) (by rw [hv]; rfl) k (.int .i64 (zat zs k)) (by simp [zat, hk])
    have hadd : (⟨g, 0, none⟩ : Addr).add k = ⟨g, k, none⟩ := by unfold Addr.add; split <;> simp_all
    rw [hadd] at this
    rw [Nat.zero_add]
    exact this

/-- a list that can be read, with its room -/
structure Lst (n0 : Nat) (w : World) (a : Option Addr) (cap : Nat) (zs : List Int) : Prop where
  row : RowB n0 w a zs
  room : zs.length ≤ cap
  nil : a = none → cap = 0

theorem Lst.below {n0 : Nat} {A B : World} {a : Option Addr} {cap : Nat} {zs : List Int} (h : Below n0 A B) (r : Lst n0 A a cap zs) : Lst n0 B a cap zs := ⟨r.row.below h, r.room, r.nil⟩
theorem Lst.mono {n0 n1 : Nat} {A : World} {a : Option Addr} {cap : Nat} {zs : List Int} (h : n0 ≤ n1) (r : Lst n0 A a cap zs) : Lst n1 A a cap zs := ⟨r.row.mono h, r.room, r.nil⟩
theorem Lst.none (n0 : Nat) (w : World) : Lst n0 w none 0 [] := ⟨fun k hk => by simp at hk, by simp, fun _ => rfl⟩

theorem lst_of_owns {w : World} {base : Nat} {v : Value} {zs : List Int} (h : w.ownsRow base 3 1 v zs.length (zs.map (Value.int .i64))) : ∃ a cap, v = .slice a zs.length cap ∧ Lst w.heap.size w a cap zs := by
  obtain ⟨a, cap, h1, h2⟩ := rowB_of_owns h
  refine ⟨a, cap, h1, h2, ?_, ?_⟩
  · rcases h.2 with ⟨g1, g2⟩ | ⟨g, c, cur, hv, _, _, hn, _⟩
    · omega
    · rw [h1] at hv; injection hv with _ _ e3; omega
  · intro ha
    rcases h.2 with ⟨g1, g2⟩ | ⟨g, c, cur, hv, _⟩
    · rw [h1] at g1; injection g1
    · rw [h1, ha] at hv; injection hv with e1; cases e1

/-- so many, each by its place -/
def ls (F : Nat → Int) (k : Nat) : List Int := (List.range k).map F
theorem ls_len (F : Nat → Int) (k : Nat) : (ls F k).length = k := by simp [ls]
theorem ls_succ (F : Nat → Int) (k : Nat) : ls F (k + 1) = ls F k ++ [F k] := by simp [ls, List.range_succ]
theorem ls_at (F : Nat → Int) (k j : Nat) (h : j < k) : zat (ls F k) j = F j := by simp [ls, zat, h]

theorem owns_succ {w : World} {base : Nat} {v : Value} {zs : List Int} {x : Int} (h : w.ownsRow base 3 1 v (zs.length + 1) (zs.map (Value.int .i64) ++ [.int .i64 x])) : w.ownsRow base 3 1 v (zs ++ [x]).length ((zs ++ [x]).map (Value.int .i64)) := by
  rw [List.length_append, List.length_singleton, List.map_append]; exact h

theorem owns_zeros (w : World) (k : Nat) (hk : k ≤ maxLen) : (w.alloc (.cells (madeCells #[.int .i64 0] k) 3)).ownsRow w.heap.size 3 1 (.slice (some ⟨w.heap.size, 0, none⟩) k k) (List.replicate k (0 : Int)).length ((List.replicate k (0 : Int)).map (Value.int .i64)) := by
  have hs : (madeCells #[Value.int .i64 0] k).size = k := by simp [madeCells]
  refine ⟨by simp, .inr ⟨w.heap.size, k, _, by simp, Nat.le_refl _, heap_alloc_new w _, by simp, hk, by omega, ?_⟩⟩
  apply List.ext_getElem
  · simp [hs]
  · intro j h1 h2
    simp [madeCells, Nat.mod_one]

end Go.Proofs.YtaapbopcfpihbabDoor

namespace Go.Proofs.YtaapbopcfpihbabDoor
open Go.RowKit Go.Extern.Stop Go.Stop Go.Extern

theorem as_valueP (t : Addr) (w : World) : (ReflectliteValue.unpack (.iface 78 (.pointer (some t)))).run Tryd.prog w
    = .ok (.agg #[.pointer (some ⟨3, 78, none⟩), .pointer (some ⟨w.heap.size, 0, none⟩), .int .u64 150]) (w.alloc (.cells #[.pointer (some t)] 78)) := by kernel_rfl
theorem as_typeP (a : Addr) (w : World) : (ReflectliteValue.methodAny (ReflectliteValue.valueError "reflectlite.Value.Type" 0) (fun t _ _ _ => ReflectliteType.toType t) #[.agg #[.pointer (some ⟨3, 78, none⟩), .pointer (some a), .int .u64 150]]).run Tryd.prog w
    = .ok (.iface 107 (.agg #[.pointer (some ⟨3, 78, none⟩)])) w := by kernel_rfl
theorem as_mKind (h : Value) (w : World) : (Go.method 248 107 (.agg #[h]) "Kind").run Tryd.prog w = .ok (91, h) w := by kernel_rfl
theorem as_kindP (w : World) : ((ReflectliteType.abiMethod fun t => (fun a : Nat => Value.int IntKind.u8 (a : Int)) <$> Rtype.kind t) #[.pointer (some ⟨3, 78, none⟩)]).run Tryd.prog w = .ok (.int .u8 22) w := by kernel_rfl
theorem as_kindE (w : World) : ((ReflectliteType.abiMethod fun t => (fun a : Nat => Value.int IntKind.u8 (a : Int)) <$> Rtype.kind t) #[.pointer (some ⟨3, 50, none⟩)]).run Tryd.prog w = .ok (.int .u8 2) w := by kernel_rfl
theorem as_rlm (z : Sem Value) (f : TypeId → Addr → Nat → Nat → Sem Value) (v : Value) :
    ReflectliteValue.method z f #[v] = (do match ← ReflectliteValue.parts v with | none => z | some (t, a, fl) => f t a fl (fl % 32)) := rfl
theorem as_partsP (a : Addr) (w : World) : (ReflectliteValue.parts (.agg #[.pointer (some ⟨3, 78, none⟩), .pointer (some a), .int .u64 150])).run Tryd.prog w = .ok (some (78, a, 150)) w := by kernel_rfl
theorem as_isNilP (a p : Addr) (W : World) (ha : W.cell? a = some (.pointer (some p))) :
    (ReflectliteValue.method (ReflectliteValue.valueError "reflectlite.Value.IsNil" 0) ReflectliteValue.isNil #[.agg #[.pointer (some ⟨3, 78, none⟩), .pointer (some a), .int .u64 150]]).run Tryd.prog W = .ok (.bool false) W := by
  rw [as_rlm]
  simp only [Sem.run_bind, as_partsP, Result.andThen]
  simp [ReflectliteValue.isNil, loadVar, isAgg, underlying, Tryd.underlying78, ha, Result.andThen]
theorem as_mElem (h : Value) (w : World) : (Go.method 248 107 (.agg #[h]) "Elem").run Tryd.prog w = .ok (102, .agg #[h]) w := by kernel_rfl
theorem as_mImpl (h : Value) (w : World) : (Go.method 248 107 (.agg #[h]) "Implements").run Tryd.prog w = .ok (103, .agg #[h]) w := by kernel_rfl
theorem as_mAssign (h : Value) (w : World) : (Go.method 248 107 (.agg #[h]) "AssignableTo").run Tryd.prog w = .ok (100, .agg #[h]) w := by kernel_rfl
theorem as_elemP (w : World) : (ReflectliteType.method ReflectliteType.elem #[.agg #[.pointer (some ⟨3, 78, none⟩)]]).run Tryd.prog w = .ok (.iface 107 (.agg #[.pointer (some ⟨3, 50, none⟩)])) w := by kernel_rfl
theorem as_implE (w : World) : (ReflectliteType.relation "Implements" ReflectliteType.implements_ #[.agg #[.pointer (some ⟨3, 50, none⟩)], .iface 107 (.agg #[.pointer (some ⟨3, 30, none⟩)])]).run Tryd.prog w = .ok (.bool true) w := by kernel_rfl
theorem as_typeOfE (v : Value) (w : World) : (ReflectliteType.typeOf #[.iface 50 v]).run Tryd.prog w = .ok (.iface 107 (.agg #[.pointer (some ⟨3, 50, none⟩)])) w := by kernel_rfl
theorem as_assignE (w : World) : (ReflectliteType.relation "AssignableTo" ReflectliteType.assignableTo #[.agg #[.pointer (some ⟨3, 50, none⟩)], .iface 107 (.agg #[.pointer (some ⟨3, 50, none⟩)])]).run Tryd.prog w = .ok (.bool true) w := by kernel_rfl
theorem as_valueE (n : Int) (w : World) : (ReflectliteValue.unpack (.iface 50 (.int .i64 n))).run Tryd.prog w
    = .ok (.agg #[.pointer (some ⟨3, 50, none⟩), .pointer (some ⟨w.heap.size, 0, none⟩), .int .u64 130]) (w.alloc (.cells #[.int .i64 n] 50)) := by kernel_rfl
theorem as_elemTypeP (w : World) : (Rtype.elem? 78).run Tryd.prog w = .ok (some 50) w := by kernel_rfl
theorem as_mkE (p : Addr) (w : World) : (ReflectliteValue.mk 50 p ReflectliteValue.flagAddr).run Tryd.prog w = .ok (.agg #[.pointer (some ⟨3, 50, none⟩), .pointer (some p), .int .u64 386]) w := by kernel_rfl
theorem as_elemVP (a p : Addr) (W : World) (ha : W.cell? a = some (.pointer (some p))) :
    (ReflectliteValue.method (ReflectliteValue.valueError "reflectlite.Value.Elem" 0) ReflectliteValue.elem #[.agg #[.pointer (some ⟨3, 78, none⟩), .pointer (some a), .int .u64 150]]).run Tryd.prog W
      = .ok (.agg #[.pointer (some ⟨3, 50, none⟩), .pointer (some p), .int .u64 386]) W := by
  rw [as_rlm]
  simp only [Sem.run_bind, as_partsP, Result.andThen]
  simp [ReflectliteValue.elem, loadVar, isAgg, underlying, Tryd.underlying78, ha, Result.andThen, as_elemTypeP, as_mkE]
theorem as_partsEa (a : Addr) (w : World) : (ReflectliteValue.parts (.agg #[.pointer (some ⟨3, 50, none⟩), .pointer (some a), .int .u64 386])).run Tryd.prog w = .ok (some (50, a, 386)) w := by kernel_rfl
theorem as_partsE (a : Addr) (w : World) : (ReflectliteValue.parts (.agg #[.pointer (some ⟨3, 50, none⟩), .pointer (some a), .int .u64 130])).run Tryd.prog w = .ok (some (50, a, 130)) w := by kernel_rfl
theorem as_directE (w : World) : (Rtype.directlyAssignable 50 50).run Tryd.prog w = .ok true w := by kernel_rfl
theorem as_set_match (v x : Value) (f : Value → Value → Sem Value) (g : Array Value → Sem Value) : ReflectliteValue.set.match_3 (fun _ => Sem Value) #[v, x] f g = f v x := rfl
theorem as_setE (ta b : Addr) (n : Int) (old : Value) (W : World) (hb : W.cell? b = some (.int .i64 n)) (ht : W.cell? ta = some old) (hf : W.frozen? ta = false) :
    (ReflectliteValue.set #[.agg #[.pointer (some ⟨3, 50, none⟩), .pointer (some ta), .int .u64 386], .agg #[.pointer (some ⟨3, 50, none⟩), .pointer (some b), .int .u64 130]]).run Tryd.prog W
      = .ok (.tuple #[]) (W.setCell ta (.int .i64 n)) := by
  delta ReflectliteValue.set
  rw [as_set_match]
  simp only [Sem.run_bind, as_partsEa, as_partsE, Result.andThen]
  simp [ReflectliteValue.flagAddr, loadVar, isAgg, underlying, Tryd.underlying50, hb, Result.andThen, as_directE, storeVar, Value.cells, storeCells, Addr.add]
  rw [run_store Tryd.prog W ta _ _ (by rfl)]
  simp [ht, hf]

set_option maxHeartbeats 4000000 in
theorem as_hit (n : Int) (t : Addr) (old : Value) (w : World) (hg : w.cell? ⟨0, 0, none⟩ = some (.iface 107 (.agg #[.pointer (some ⟨3, 30, none⟩)]))) (ht0 : w.cell? t = some old) (hf0 : w.frozen? t = false) :
    Calls Tryd.prog 52 #[.iface 50 (.int .i64 n), .iface 78 (.pointer (some t))] w fun ev w' => ev = .returned (.bool true) ∧ w' = ((((w.alloc (.cells #[.pointer (some t)] 78)).alloc (.cells #[.pointer (some ⟨3, 78, none⟩), .pointer (some ⟨w.heap.size, 0, none⟩), .int .u64 150] 91)).alloc (.cells #[.pointer (some ⟨3, 78, none⟩), .pointer (some ⟨w.heap.size, 0, none⟩), .int .u64 150] 91)).alloc (.cells #[.int .i64 n] 50)).setCell t (.int .i64 n) := by
  have h6 := @run_callFunc_extern Tryd.prog 65 _ (fun args => ReflectliteValue.unpack (args.getD 0 (.tuple #[]))) Tryd.func65 (by kernel_rfl) (by kernel_rfl) (by kernel_rfl) (by kernel_rfl)
  have h7 := @run_callFunc_extern Tryd.prog 66 _ (ReflectliteValue.methodAny (ReflectliteValue.valueError "reflectlite.Value.Type" 0) (fun t _ _ _ => ReflectliteType.toType t)) Tryd.func66 (by kernel_rfl) (by kernel_rfl) (by kernel_rfl) (by kernel_rfl)
  have h8 := @run_callFunc_extern Tryd.prog 67 _ (ReflectliteValue.method (ReflectliteValue.valueError "reflectlite.Value.IsNil" 0) ReflectliteValue.isNil) Tryd.func67 (by kernel_rfl) (by kernel_rfl) (by kernel_rfl) (by kernel_rfl)
  have h27 := @run_callFunc_extern Tryd.prog 91 _ (ReflectliteType.abiMethod fun t => do pure (.int .u8 (← Rtype.kind t))) Tryd.func91 (by kernel_rfl) (by kernel_rfl) (by kernel_rfl) (by kernel_rfl)
  have h37 := @run_callFunc_extern Tryd.prog 102 _ (ReflectliteType.method ReflectliteType.elem) Tryd.func102 (by kernel_rfl) (by kernel_rfl) (by kernel_rfl) (by kernel_rfl)
  have h38 := @run_callFunc_extern Tryd.prog 103 _ (ReflectliteType.relation "Implements" ReflectliteType.implements_) Tryd.func103 (by kernel_rfl) (by kernel_rfl) (by kernel_rfl) (by kernel_rfl)
  have h10 := @run_callFunc_extern Tryd.prog 74 _ ReflectliteType.typeOf Tryd.func74 (by kernel_rfl) (by kernel_rfl) (by kernel_rfl) (by kernel_rfl)
  have h35 := @run_callFunc_extern Tryd.prog 100 _ (ReflectliteType.relation "AssignableTo" ReflectliteType.assignableTo) Tryd.func100 (by kernel_rfl) (by kernel_rfl) (by kernel_rfl) (by kernel_rfl)
  have h11 := @run_callFunc_extern Tryd.prog 75 _ (ReflectliteValue.method (ReflectliteValue.valueError "reflectlite.Value.Elem" 0) ReflectliteValue.elem) Tryd.func75 (by kernel_rfl) (by kernel_rfl) (by kernel_rfl) (by kernel_rfl)
  have h12 := @run_callFunc_extern Tryd.prog 76 _ ReflectliteValue.set Tryd.func76 (by kernel_rfl) (by kernel_rfl) (by kernel_rfl) (by kernel_rfl)
  have tO := as_typeOfE
  have mA := as_mAssign
  have a25 := as_assignE
  have v25 := as_valueE
  have f6 := as_valueP
  have f7 := as_typeP
  have mK := as_mKind
  have mE := as_mElem
  have mI := as_mImpl
  have k27 := as_kindP
  have k25 := as_kindE
  have e27 := as_elemP
  have i25 := as_implE
  have n8 := as_isNilP ⟨w.heap.size, 0, none⟩ t ((w.alloc (.cells #[.pointer (some t)] 78)).alloc (.cells #[.pointer (some ⟨3, 78, none⟩), .pointer (some ⟨w.heap.size, 0, none⟩), .int .u64 150] 91)) (by simp)
  have hlt : 0 < w.heap.size := by
    rcases Nat.lt_or_ge 0 w.heap.size with h | h
    · exact h
    · simp [World.cell?, Array.getElem?_eq_none h] at hg
  have hg2 : ((w.alloc (.cells #[.pointer (some t)] 78)).alloc (.cells #[.pointer (some ⟨3, 78, none⟩), .pointer (some ⟨w.heap.size, 0, none⟩), .int .u64 150] 91)).cell? ⟨0, 0, none⟩ = some (.iface 107 (.agg #[.pointer (some ⟨3, 30, none⟩)])) := by
    rw [World.cell?_alloc_lt _ _ ⟨0, 0, none⟩ (by simp <;> omega), World.cell?_alloc_lt _ _ ⟨0, 0, none⟩ hlt]; exact hg
  have htl : t.block < w.heap.size := by
    rcases Nat.lt_or_ge t.block w.heap.size with h | h
    · exact h
    · simp [World.cell?, Array.getElem?_eq_none h] at ht0
  have el := as_elemVP ⟨w.heap.size, 0, none⟩ t (((w.alloc (.cells #[.pointer (some t)] 78)).alloc (.cells #[.pointer (some ⟨3, 78, none⟩), .pointer (some ⟨w.heap.size, 0, none⟩), .int .u64 150] 91)).alloc (.cells #[.pointer (some ⟨3, 78, none⟩), .pointer (some ⟨w.heap.size, 0, none⟩), .int .u64 150] 91)) (by rw [World.cell?_alloc_lt _ _ ⟨w.heap.size, 0, none⟩ (by simp; omega)]; simp)
  have st := as_setE t ⟨w.heap.size + 1 + 1 + 1, 0, none⟩ n old ((((w.alloc (.cells #[.pointer (some t)] 78)).alloc (.cells #[.pointer (some ⟨3, 78, none⟩), .pointer (some ⟨w.heap.size, 0, none⟩), .int .u64 150] 91)).alloc (.cells #[.pointer (some ⟨3, 78, none⟩), .pointer (some ⟨w.heap.size, 0, none⟩), .int .u64 150] 91)).alloc (.cells #[.int .i64 n] 50))
    (by rw [World.cell?_alloc_at _ _ _ _ (by simp)]; rfl)
    (by rw [World.cell?_alloc_lt _ _ t (by simp; omega), World.cell?_alloc_lt _ _ t (by simp; omega), World.cell?_alloc_lt _ _ t (by simp; omega), World.cell?_alloc_lt _ _ t htl]; exact ht0)
    (by rw [World.frozen?_alloc_old _ _ t (by simp; omega), World.frozen?_alloc_old _ _ t (by simp; omega), World.frozen?_alloc_old _ _ t (by simp; omega), World.frozen?_alloc_old _ _ t (Nat.ne_of_lt htl)]; exact hf0)
  go_enter Tryd.func52, Tryd.ntmps52
  go_wp2
  refine wp_loop_rounds 1 ?_
  rw [rounds_succ]
  go_wp2
  go_ret
  exact ⟨rfl, rfl⟩
end Go.Proofs.YtaapbopcfpihbabDoor

namespace Go.Proofs.YtaapbopcfpihbabDoor
open Go.RowKit

/-- package errors' own variable holds what its text lays -/
def Laid (w : World) : Prop := w.cell? ⟨0, 0, none⟩ = some (.iface 107 (.agg #[.pointer (some ⟨3, 30, none⟩)]))

theorem cell_lt {w : World} {a : Addr} {v : Value} (h : w.cell? a = some v) : a.block < w.heap.size := by
  rcases Nat.lt_or_ge a.block w.heap.size with g | g
  · exact g
  · simp [World.cell?, Array.getElem?_eq_none g] at h

theorem Laid.lt {w : World} (h : Laid w) : 0 < w.heap.size := cell_lt (a := ⟨0, 0, none⟩) h
theorem Laid.below {w w' : World} (h : Laid w) (hb : Below w.heap.size w w') : Laid w' := (hb.cell (p := ⟨0, 0, none⟩) h.lt).trans h

theorem told_nil (w : World) : Calls Tryd.prog 31 #[.nilIface] w fun e w' => e = .returned (.int .i64 0) ∧ w' = w := by
  go_enter Tryd.func31, Tryd.ntmps31
  go_wp2
  go_ret
  exact ⟨rfl, rfl⟩

set_option maxHeartbeats 400000 in
theorem told_hit (n : Int) (w : World) (hL : Laid w) :
    Calls Tryd.prog 31 #[.iface 50 (.int .i64 n)] w fun e w' => e = .returned (.int .i64 n) ∧ Below w.heap.size w w' := by
  have hlt := hL.lt
  have hg : Hid ((w.alloc (.cells #[.int .i64 0] 50)).cell? ⟨0, 0, none⟩ = some (.iface 107 (.agg #[.pointer (some ⟨3, 30, none⟩)]))) := by
    unfold Hid
    rw [World.cell?_alloc_lt _ _ ⟨0, 0, none⟩ hlt]; exact hL
  have ht : Hid ((w.alloc (.cells #[.int .i64 0] 50)).cell? ⟨w.heap.size, 0, none⟩ = some (.int .i64 0)) := by unfold Hid; simp
  have hf : Hid ((w.alloc (.cells #[.int .i64 0] 50)).frozen? ⟨w.heap.size, 0, none⟩ = false) := by unfold Hid; simp
  have has := hid (as_hit n ⟨w.heap.size, 0, none⟩ (.int .i64 0) _ hg.out ht.out hf.out)
  clear hg ht hf
  go_enter Tryd.func31, Tryd.ntmps31
  go_wp2_with fail
  refine has.out.mono ?_
  rintro e w' ⟨rfl, rfl⟩
  go_wp2_with fail
  go_ret
  refine ⟨rfl, ?_⟩
  exact (((((Below.refl _ _).alloc (Nat.le_refl _) _).alloc (by simp) _).alloc (by simp <;> omega) _).alloc (by simp <;> omega) _).alloc (by simp <;> omega) _

theorem error_nil (k : Int) (w : World) : Calls Tryd.prog 14 #[.nilIface, .int .i64 k] w fun e w' => e = .returned (.bool ((0 : Int) == k)) ∧ w' = w := by
  go_enter Tryd.func14, Tryd.ntmps14
  go_wp2_with fail
  refine (told_nil w).mono ?_
  rintro e w' ⟨rfl, rfl⟩
  go_wp2_with fail
  go_ret
  exact ⟨rfl, rfl⟩

theorem error_hit (n k : Int) (w : World) (hL : Laid w) : Calls Tryd.prog 14 #[.iface 50 (.int .i64 n), .int .i64 k] w fun e w' => e = .returned (.bool (n == k)) ∧ Below w.heap.size w w' := by
  have ht := hid (told_hit n w hL)
  clear hL
  go_enter Tryd.func14, Tryd.ntmps14
  go_wp2_with fail
  refine ht.out.mono ?_
  rintro e w' ⟨rfl, hb⟩
  go_wp2_with fail
  go_ret
  exact ⟨rfl, hb⟩

/-- what attestref1.Prime answers -/
def SaysPrime (n : Nat) (e : Ending) : Prop := (e = .returned (.bool false) ∧ ¬ Num.Prime n) ∨ (e = .returned (.bool true) ∧ Num.Prime n)

set_option maxHeartbeats 400000 in
theorem prime_loop (n : Nat) (w : World) (h3 : 3 ≤ n) (hm : n ≤ 2147483647) :
    Calls Tryd.prog 13 #[.int .i64 n] w fun e w' => SaysPrime n e ∧ w' = w := by
  have h32 : ¬ (n : Int) < 3 := by omega
  have hm2 : ¬ (2147483647 : Int) < (n : Int) := by omega
  go_enter Tryd.func13, Tryd.ntmps13
  go_wp2_with fail
  go_loop [3] (fun i => ∃ k : Nat, 2 ≤ k ∧ k ≤ 46341 ∧ i = .int .i64 k ∧ Hid (∀ e, 2 ≤ e → e < k → ¬ e ∣ n)) (fun i => 46341 - (intOf i).toNat)
  case atStart => exact ⟨2, by omega, by omega, rfl, hid (fun e h g => by omega)⟩
  case round =>
    obtain ⟨k, hk2, hk, rfl, HN⟩ := hrel
    have hsq : ((k : Int) * k) = ((k * k : Nat) : Int) := by simp
    have hkk : k * k ≤ 46341 * 46341 := Nat.mul_le_mul hk hk
    have hq1 : 0 ≤ (k : Int) * k := by omega
    have hq2 : (k : Int) * k ≤ 2147488281 := by omega
    by_cases hle : k * k ≤ n
    · have hk3 := sq_le k n hle hm
      have hle2 : (k : Int) * k ≤ n := by omega
      have HL := hid hle
      clear hsq hle hkk
      by_cases hd : k ∣ n
      · have hmod : ((n : Int) % (k : Int) == 0) = true := by
          rw [beq_iff_eq]; exact Int.emod_eq_zero_of_dvd (Int.ofNat_dvd.2 hd)
        have HD := hid hd
        clear hd
        go_wp2_with fail
        go_ret
        refine ⟨Or.inl ⟨rfl, fun hp => ?_⟩, rfl⟩
        rcases hp.2 k HD.out with g | g
        · omega
        · have h1 := HL.out
          have h2 : k * 2 ≤ k * k := Nat.mul_le_mul_left k hk2
          omega
      · have hmod : ((n : Int) % (k : Int) == 0) = false := by
          rw [beq_eq_false_iff_ne]; intro g; exact hd (Int.ofNat_dvd.1 (Int.dvd_of_emod_eq_zero g))
        have HD := hid hd
        clear hd
        go_wp2_with fail
        go_round
        case rel => exact ⟨k + 1, by omega, by omega, by go_num, fun e he hlt hde => by
          by_cases hek : e = k
          · subst hek; exact HD.out hde
          · exact HN.out e he (by omega) hde⟩
        case measure => simp [intOf]; omega
    · have hle2 : ¬ (k : Int) * k ≤ n := by omega
      have HL := hid hle
      clear hsq hle hkk
      go_wp2_with fail
      go_ret
      exact ⟨Or.inr ⟨rfl, Num.least_prime (Num.least_self (by omega) (Nat.lt_of_not_le HL.out) HN.out)⟩, rfl⟩

theorem prime_yes (n : Nat) (w : World) (h3 : 3 ≤ n) (hm : n ≤ 2147483647) (hp : Num.Prime n) :
    Calls Tryd.prog 13 #[.int .i64 n] w fun e w' => e = .returned (.bool true) ∧ w' = w :=
  (prime_loop n w h3 hm).mono fun e w' ⟨he, hw⟩ => ⟨by
    rcases he with ⟨_, hn⟩ | ⟨he, _⟩
    · exact absurd hp hn
    · exact he, hw⟩

theorem prime_no (p : Int) (w : World) (hno : ¬ okPrime p) :
    Calls Tryd.prog 13 #[.int .i64 p] w fun e w' => e = .returned (.bool false) ∧ w' = w := by
  by_cases h3 : p < 3
  · go_enter Tryd.func13, Tryd.ntmps13
    go_wp2_with fail
    go_ret
    exact ⟨rfl, rfl⟩
  · by_cases h4 : 2147483647 < p
    · go_enter Tryd.func13, Tryd.ntmps13
      go_wp2_with fail
      go_ret
      exact ⟨rfl, rfl⟩
    · obtain ⟨q, rfl⟩ := Int.eq_ofNat_of_zero_le (show 0 ≤ p by omega)
      refine (prime_loop q w (by omega) (by omega)).mono fun e w' ⟨he, hw⟩ => ⟨?_, hw⟩
      rcases he with ⟨he, _⟩ | ⟨_, hp⟩
      · exact he
      · exact absurd ⟨by omega, by omega, by rw [Int.toNat_natCast]; exact hp⟩ hno

set_option maxHeartbeats 400000 in
theorem field_yes (q : Nat) (w : World) (h3 : 3 ≤ q) (h4 : q ≤ 2147483647) (hq : Num.Prime q) :
    Calls Tryd.prog 4 #[.int .i64 q] w fun e w' => e = .returned (.tuple #[.pointer (some ⟨w.heap.size, 0, none⟩), .bool true]) ∧ w'.cell? ⟨w.heap.size, 0, none⟩ = some (.int .i64 q) ∧ Below w.heap.size w w' ∧ w.heap.size < w'.heap.size := by
  have hn := hid (new_yes q w h3 h4 hq)
  have hpy := hid (fun w => prime_yes q w h3 h4 hq)
  clear hq
  go_enter Tryd.func4, Tryd.ntmps4
  go_wp2_with fail
  refine hn.out.mono ?_
  rintro e w1 ⟨rfl, hc, hb, hlt⟩
  have HB := hid hb
  have HC := hid hc
  clear hb hc
  go_wp2_with fail
  refine (hpy.out w1).mono ?_
  rintro e w2 ⟨rfl, rfl⟩
  go_wp2_with fail
  refine (error_nil 0 w2).mono ?_
  rintro e w3 ⟨rfl, rfl⟩
  go_wp2_with fail
  go_ret2
  exact ⟨rfl, HC.out, HB.out, hlt⟩

set_option maxHeartbeats 400000 in
theorem field_no (p : Int) (w : World) (hL : Laid w) (hno : ¬ okPrime p) (h1 : -9223372036854775808 ≤ p) (h2 : p ≤ 9223372036854775807) :
    Calls Tryd.prog 4 #[.int .i64 p] w fun e w' => e = .returned (.tuple #[.pointer none, .bool true]) ∧ Below w.heap.size w w' := by
  have hn := hid (new_no p w hno h1 h2)
  have hpn := hid (prime_no p w hno)
  have hee := hid (error_hit 1 1 w hL)
  clear hno hL
  go_enter Tryd.func4, Tryd.ntmps4
  go_wp2_with fail
  refine hn.out.mono ?_
  rintro e w1 ⟨rfl, rfl⟩
  go_wp2_with fail
  refine hpn.out.mono ?_
  rintro e w2 ⟨rfl, rfl⟩
  go_wp2_with fail
  refine hee.out.mono ?_
  rintro e w3 ⟨rfl, hb⟩
  have HB := hid hb
  clear hb
  go_wp2_with fail
  go_ret2
  exact ⟨rfl, HB.out⟩

end Go.Proofs.YtaapbopcfpihbabDoor
