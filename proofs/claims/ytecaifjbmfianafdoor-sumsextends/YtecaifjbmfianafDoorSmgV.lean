/- Package sums: variables, by the table that counts last zeros. -/
import Derived.Test.YtecaifjbmfianafDoorSmgA
import Derived.Test.YtecaifjbmfianafDoorTz
namespace Go.Proofs.YtecaifjbmfianafDoor
open Go.RowKit

theorem pow_odd {S v m : Nat} (h : 2 ^ v = 2 ^ S * (2 * m + 1)) : S = v := by
  rcases Nat.lt_trichotomy S v with g | g | g
  · obtain ⟨d, rfl⟩ : ∃ d, v = S + (d + 1) := ⟨v - S - 1, by omega⟩
    rw [Nat.pow_add] at h
    have := Nat.eq_of_mul_eq_mul_left (Nat.pow_pos (by decide)) h
    rw [Nat.pow_succ] at this
    omega
  · exact g
  · obtain ⟨d, rfl⟩ : ∃ d, S = v + (d + 1) := ⟨S - v - 1, by omega⟩
    rw [Nat.pow_add, Nat.mul_assoc] at h
    have h2 : 2 ^ v * 1 = 2 ^ v * (2 ^ (d + 1) * (2 * m + 1)) := by rw [Nat.mul_one]; exact h
    have := Nat.eq_of_mul_eq_mul_left (Nat.pow_pos (by decide)) h2
    have h3 : 2 ^ (d + 1) * (2 * m + 1) % 2 = 1 := by rw [← this]
    rw [Nat.pow_succ, Nat.mul_right_comm, Nat.mul_mod_left] at h3
    omega

set_option maxRecDepth 100000 in
theorem vars_any (n v cap : Nat) (a : Option Addr) (w : World) (hv : v ≤ 12) (hn : n = 2 ^ v) (hT : TabAt 2 Lib.deBruijn64tab w) :
    Calls Tryd.prog 41 #[.slice a n cap] w fun e w' => e = .returned (.int .i64 (v : Int)) ∧ w' = w := by
  have h1 := pow_12 hv
  have h0 : 0 < 2 ^ v := Nat.pow_pos (by decide)
  have HZ : Hid (Calls Tryd.prog 67 #[.int .u64 (n : Int)] w fun e w' => e = .returned (.int .i64 (v : Int)) ∧ w' = w) := by
    refine (tz_any n (by omega) (by omega) w hT).mono ?_
    rintro e w' ⟨S, m, rfl, _, h, hw⟩
    rw [hn] at h
    rw [pow_odd h]
    exact ⟨rfl, hw⟩
  have hn2 : n ≤ 4096 := by omega
  clear hn hT h1 h0
  go_enter Tryd.func41, Tryd.ntmps41
  go_wp2_with fail
  refine HZ.out.mono ?_
  rintro e w1 ⟨rfl, rfl⟩
  go_wp2_with fail
  go_ret
  exact ⟨rfl, rfl⟩

end Go.Proofs.YtecaifjbmfianafDoor
