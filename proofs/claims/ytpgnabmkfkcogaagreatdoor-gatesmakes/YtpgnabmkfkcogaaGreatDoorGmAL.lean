/- Package gates: Part. Package gates: Part of anything; Values of a circuit of one gate. attestref12: two, Powers, Dot, Sum, Unit, Units. -/
import Derived.Test.YtpgnabmkfkcogaaGreatDoorGtR
import Derived.Test.YtpgnabmkfkcogaaGreatDoorGmAK
import Derived.Test.YtpgnabmkfkcogaaGreatDoorGmAI
import Derived.Test.YtpgnabmkfkcogaaGreatDoorGmAH
import Derived.Test.YtpgnabmkfkcogaaGreatDoorSpgs
import Derived.Test.YtpgnabmkfkcogaaGreatDoorGmAF
import Derived.StillTailTactics
namespace Go.Proofs.YtpgnabmkfkcogaaGreatDoor
open Go.RowKit

end Go.Proofs.YtpgnabmkfkcogaaGreatDoor

namespace Go.Proofs.YtpgnabmkfkcogaaGreatDoor
open Go.RowKit

end Go.Proofs.YtpgnabmkfkcogaaGreatDoor

namespace Go.Proofs.YtpgnabmkfkcogaaGreatDoor
open Go.RowKit

set_option maxRecDepth 100000 in
theorem rtwo_any (n : Nat) (w : World) (hn : n ≤ 60) : Calls Tryz.prog 52 #[.int .i64 (n : Int)] w fun e w' => e = .returned (.int .i64 ((2 ^ n : Nat) : Int)) ∧ w' = w := by
  obtain ⟨X0, hX0⟩ : ∃ X0 : Nat, X0 = 2 ^ n := ⟨_, rfl⟩
  rw [← hX0]
  have HX0 := hid hX0
  clear hX0
  go_enter Tryz.func52, Tryz.ntmps52
  go_wp2_with fail
  go_loop [3, 4] (fun xv iv => ∃ k X : Nat, k ≤ n ∧ iv = .int .i64 (k : Int) ∧ xv = .int .i64 (X : Int) ∧ Hid (X = 2 ^ k)) (fun _ iv => n - (intOf iv).toNat)
  case atStart => exact ⟨0, 1, by omega, rfl, rfl, rfl⟩
  case round =>
    obtain ⟨k, X, hk, rfl, rfl, HX⟩ := hrel
    by_cases hlt : k < n
    · have hlt2 : (k : Int) < (n : Int) := by omega
      have hks : IntKind.i64.wrap ((k : Int) + 1) = (k : Int) + 1 := by rw [IntKind.wrap_i64]; omega
      have hp : X ≤ 1152921504606846976 := by
        rw [HX.out]
        exact Nat.pow_le_pow_right (n := 2) (by decide) (show k ≤ 60 by omega)
      have HX2 : Hid (X * 2 = 2 ^ (k + 1)) := by unfold Hid; rw [HX.out, Nat.pow_succ]
      have hw : IntKind.i64.wrap ((X : Int) * 2) = ((X * 2 : Nat) : Int) := by rw [IntKind.wrap_i64]; omega
      go_wp2_with fail
      go_round
      case rel => exact ⟨k + 1, X * 2, by omega, by go_num, rfl, HX2⟩
      case measure => simp [intOf]; omega
    · obtain rfl : k = n := by omega
      have hlt2 : ¬ (k : Int) < (k : Int) := by omega
      obtain rfl : X = X0 := by rw [HX.out, HX0.out]
      go_wp2_with fail
      go_ret
      exact ⟨rfl, rfl⟩

end Go.Proofs.YtpgnabmkfkcogaaGreatDoor
