/- What remainder, leastDivisor, and the methods Of and Mul of a field do, for every input that the program gives them: the world stays as it is. -/
import Derived.Test.YtidkhgplejglaacDoorRows
import Derived.Test.YtidkhgplejglaacDoorNum
import Derived.WalkKit
import Derived.WalkSpells
import Derived.WalkLawsBesides
namespace Go.Proofs.YtidkhgplejglaacDoor
open Go.RowKit

theorem hid {p : Prop} (h : p) : Hid p := h

theorem ret_int {k : IntKind} {a b : Int} (h : a = b) : Ending.returned (.int k a) = .returned (.int k b) := by rw [h]

theorem ret_bool {a b : Bool} (h : a = b) : Ending.returned (.bool a) = .returned (.bool b) := by rw [h]

theorem tmod_neg_fix (n m : Int) (hm : 0 < m) (h : n.tmod m < 0) : n.tmod m + m = n % m := by
  have e := Int.tmod_eq_emod (a := n) (b := m)
  have h1 := Int.emod_nonneg n (b := m) (by omega)
  split at e
  · omega
  · have : (m.natAbs : Int) = m := by omega
    omega

theorem tmod_pos_fix (n m : Int) (hm : 0 < m) (h : ¬ n.tmod m < 0) : n.tmod m = n % m := by
  have e := Int.tmod_eq_emod (a := n) (b := m)
  have h2 := Int.emod_lt_of_pos n hm
  split at e
  · omega
  · have : (m.natAbs : Int) = m := by omega
    omega

theorem tmod_bounds (n m : Int) (hm : 0 < m) : -m ≤ n.tmod m ∧ n.tmod m < m := by
  have h1 := Int.emod_nonneg n (b := m) (by omega)
  have h2 := Int.emod_lt_of_pos n hm
  by_cases h : n.tmod m < 0
  · have := tmod_neg_fix n m hm h; omega
  · have := tmod_pos_fix n m hm h; omega

set_option maxHeartbeats 400000 in
theorem rem_any (n m : Int) (w : World) (hm : 0 < m) (hm2 : m ≤ 2147483647) (_hn : -9223372036854775808 ≤ n) (_hn2 : n ≤ 9223372036854775807) :
    Calls Tryd.prog 45 #[.int .i64 n, .int .i64 m] w fun e w' => e = .returned (.int .i64 (n % m)) ∧ w' = w := by
  by_cases h1 : 0 ≤ n
  · by_cases h2 : n < m
    · have he : Hid (n % m = n) := hid (Int.emod_eq_of_lt h1 h2)
      go_enter Tryd.func45, Tryd.ntmps45
      go_wp2
      go_ret
      exact ⟨ret_int he.out.symm, rfl⟩
    · have hb1 := Int.emod_nonneg n (b := m) (by omega)
      go_enter Tryd.func45, Tryd.ntmps45
      go_wp2
      go_ret
      exact ⟨rfl, rfl⟩
  · obtain ⟨hb1, hb2⟩ := tmod_bounds n m hm
    by_cases h2 : n.tmod m < 0
    · have he : Hid (n.tmod m + m = n % m) := hid (tmod_neg_fix n m hm h2)
      have hs1 : 0 ≤ n.tmod m + m := by omega
      go_enter Tryd.func45, Tryd.ntmps45
      go_wp2
      go_ret
      exact ⟨ret_int he.out, rfl⟩
    · have he : Hid (n.tmod m = n % m) := hid (tmod_pos_fix n m hm h2)
      go_enter Tryd.func45, Tryd.ntmps45
      go_wp2
      go_ret
      exact ⟨ret_int he.out, rfl⟩

/-- leastDivisor: the least divisor from 2 on. -/
theorem sq_le (k n : Nat) (h : k * k ≤ n) (hn : n ≤ 2147483647) : k ≤ 46340 := by
  rcases Nat.lt_or_ge 46340 k with g | g
  · have : 46341 * 46341 ≤ k * k := Nat.mul_le_mul g g
    omega
  · exact g

set_option maxHeartbeats 400000 in
theorem least_any (n : Nat) (w : World) (h2 : 2 ≤ n) (hm : n ≤ 2147483647) :
    Calls Tryd.prog 51 #[.int .i64 n] w fun e w' => ∃ d : Nat, e = .returned (.int .i64 d) ∧ Num.Least n d ∧ w' = w := by
  go_enter Tryd.func51, Tryd.ntmps51
  go_wp2
  go_loop [3] (fun i => ∃ k : Nat, 2 ≤ k ∧ k ≤ 46341 ∧ i = .int .i64 k ∧ ∀ e, 2 ≤ e → e < k → ¬ e ∣ n) (fun i => 46341 - (intOf i).toNat)
  case atStart => exact ⟨2, by omega, by omega, rfl, fun e h g => by omega⟩
  case round =>
    obtain ⟨k, hk2, hk, rfl, hno⟩ := hrel
    have HN := hid hno
    clear hno
    have hsq : ((k : Int) * k) = ((k * k : Nat) : Int) := by simp
    have hkk : k * k ≤ 46341 * 46341 := Nat.mul_le_mul hk hk
    have hq1 : 0 ≤ (k : Int) * k := by omega
    have hq2 : (k : Int) * k ≤ 2147488281 := by omega
    by_cases hle : k * k ≤ n
    · have hk3 := sq_le k n hle hm
      have hle2 : (k : Int) * k ≤ n := by omega
      clear hsq hle hkk
      by_cases hd : k ∣ n
      · have hmod : ((n : Int) % (k : Int) == 0) = true := by
          rw [beq_iff_eq]; exact Int.emod_eq_zero_of_dvd (Int.ofNat_dvd.2 hd)
        have HD := hid hd
        clear hd
        go_wp2
        go_ret
        exact ⟨k, rfl, ⟨hk2, HD.out, HN.out⟩, rfl⟩
      · have hmod : ((n : Int) % (k : Int) == 0) = false := by
          rw [beq_eq_false_iff_ne]; intro g; exact hd (Int.ofNat_dvd.1 (Int.dvd_of_emod_eq_zero g))
        have HD := hid hd
        clear hd
        go_wp2
        go_round
        case rel => exact ⟨k + 1, by omega, by omega, by go_num, fun e he hlt hde => by
          by_cases hek : e = k
          · subst hek; exact HD.out hde
          · exact HN.out e he (by omega) hde⟩
        case measure => simp [intOf]; omega
    · have hle2 : ¬ (k : Int) * k ≤ n := by omega
      have HL := hid hle
      clear hsq hle hkk
      go_wp2
      go_ret
      exact ⟨n, rfl, Num.least_self h2 (Nat.lt_of_not_le HL.out) HN.out, rfl⟩

set_option maxHeartbeats 400000 in
theorem of_any (p b : Nat) (n : Int) (w : World) (h3 : 3 ≤ p) (hm : p ≤ 2147483647) (hp : w.cell? ⟨b, 0, none⟩ = some (.int .i64 p))
    (hn : -9223372036854775808 ≤ n) (hn2 : n ≤ 9223372036854775807) :
    Calls Tryd.prog 42 #[.pointer (some ⟨b, 0, none⟩), .int .i64 n] w fun e w' => e = .returned (.int .i64 (n % p)) ∧ w' = w := by
  go_enter Tryd.func42, Tryd.ntmps42
  go_wp2_with (go_at_call 45; refine (rem_any n p w (by omega) (by omega) hn hn2).mono ?_; rintro e w' ⟨rfl, rfl⟩)
  go_ret
  exact ⟨rfl, rfl⟩

theorem emod_bounds (n : Int) (p : Nat) (h3 : 3 ≤ p) : 0 ≤ n % (p : Int) ∧ n % (p : Int) < p :=
  ⟨Int.emod_nonneg _ (by omega), Int.emod_lt_of_pos _ (by omega)⟩

theorem mul_small (x y : Int) (hx : 0 ≤ x) (hx2 : x ≤ 2147483647) (hy : 0 ≤ y) (hy2 : y ≤ 2147483647) : 0 ≤ x * y ∧ x * y ≤ 4611686014132420609 := by
  refine ⟨Int.mul_nonneg hx hy, ?_⟩
  have : x * y ≤ 2147483647 * 2147483647 := Int.mul_le_mul hx2 hy2 hy (by omega)
  omega

set_option maxHeartbeats 400000 in
theorem mul_any (p b : Nat) (x y : Int) (w : World) (h3 : 3 ≤ p) (hm : p ≤ 2147483647) (hp : w.cell? ⟨b, 0, none⟩ = some (.int .i64 p))
    (hx : -9223372036854775808 ≤ x) (hx2 : x ≤ 9223372036854775807) (hy : -9223372036854775808 ≤ y) (hy2 : y ≤ 9223372036854775807) :
    Calls Tryd.prog 27 #[.pointer (some ⟨b, 0, none⟩), .int .i64 x, .int .i64 y] w fun e w' => e = .returned (.int .i64 (x * y % p)) ∧ w' = w := by
  obtain ⟨a1, a2⟩ := emod_bounds x p h3
  obtain ⟨b1, b2⟩ := emod_bounds y p h3
  obtain ⟨c1, c2⟩ := mul_small (x % p) (y % p) a1 (by omega) b1 (by omega)
  go_enter Tryd.func27, Tryd.ntmps27
  go_wp2_with fail
  refine (of_any p b x w h3 hm hp hx hx2).mono ?_
  rintro e w' ⟨rfl, rfl⟩
  go_wp2_with fail
  refine (of_any p b y _ h3 hm hp hy hy2).mono ?_
  rintro e w' ⟨rfl, rfl⟩
  go_wp2_with fail
  refine (of_any p b _ _ h3 hm hp (by omega) (by omega)).mono ?_
  rintro e w' ⟨rfl, rfl⟩
  go_wp2
  go_ret
  exact ⟨ret_int (Int.mul_emod x y p).symm, rfl⟩

end Go.Proofs.YtidkhgplejglaacDoor
