/- Package pledge: drawPower, drawPlaces. attestref12: draw, Fits. -/
import Derived.Test.YtpgnabmkfkcogaaGreatDoorGxAW
import Derived.Test.YtpgnabmkfkcogaaGreatDoorGxAL
import Derived.Test.YtpgnabmkfkcogaaGreatDoorGxAJ
import Derived.Test.YtpgnabmkfkcogaaGreatDoorGxAZ
import Derived.Test.YtpgnabmkfkcogaaGreatDoorChnF
import Derived.Test.YtpgnabmkfkcogaaGreatDoorGxAS
import Derived.Test.YtpgnabmkfkcogaaGreatDoorTres
namespace Go.Proofs.YtpgnabmkfkcogaaGreatDoor
open Go.RowKit Go.Sort

end Go.Proofs.YtpgnabmkfkcogaaGreatDoor

namespace Go.Proofs.YtpgnabmkfkcogaaGreatDoor
open Go.RowKit

set_option maxRecDepth 100000 in
set_option maxHeartbeats 1000000 in
theorem rfits12_any (q N : Nat) (s r v : Int) (w : World) (hN : N ≤ 65536) (hv1 : -9223372036854775808 ≤ v) (hv2 : v ≤ 9223372036854775807) :
    Calls Tryz.prog 18 #[.agg #[.int .i64 q, .int .i64 (N : Int), .int .i64 s, .int .i64 r], .int .i64 v] w fun e w' => e = .returned (.bool (decide (0 ≤ v ∧ v ≤ 12 ∧ 2 ^ (v.toNat - v.toNat / 2) ≤ N / 2))) ∧ Below w.heap.size w w' := by
  obtain ⟨W0, hW0⟩ : ∃ W0, W0 = w.alloc (.cells #[.int .i64 q, .int .i64 (N : Int), .int .i64 s, .int .i64 r] 39) := ⟨_, rfl⟩
  have hb0 : Below w.heap.size w W0 := by rw [hW0]; exact (Below.refl _ _).alloc (Nat.le_refl _) _
  have hs0 : W0.heap[w.heap.size]? = some (.cells #[.int .i64 q, .int .i64 (N : Int), .int .i64 s, .int .i64 r] 39 (0, 0)) := by rw [hW0]; exact heap_alloc_new w _
  have HB0 := hid hb0
  by_cases h0 : v < 0
  · rw [decide_eq_false (show ¬ (0 ≤ v ∧ v ≤ 12 ∧ 2 ^ (v.toNat - v.toNat / 2) ≤ N / 2) from fun h => by omega)]
    have HW0 := hid hW0
    clear hb0 hs0 hW0
    go_enter Tryz.func18, Tryz.ntmps18
    go_wp2_with fail
    rw [← HW0.out]
    go_ret
    exact ⟨rfl, HB0.out⟩
  · by_cases h12 : 12 < v
    · rw [decide_eq_false (show ¬ (0 ≤ v ∧ v ≤ 12 ∧ 2 ^ (v.toNat - v.toNat / 2) ≤ N / 2) from fun h => by omega)]
      have HW0 := hid hW0
      clear hb0 hs0 hW0
      go_enter Tryz.func18, Tryz.ntmps18
      go_wp2_with fail
      rw [← HW0.out]
      go_ret
      exact ⟨rfl, HB0.out⟩
    · obtain ⟨v', rfl⟩ := Int.eq_ofNat_of_zero_le (show 0 ≤ v by omega)
      obtain ⟨lo, hlo⟩ : ∃ lo, lo = v' - v' / 2 := ⟨_, rfl⟩
      have HD : Hid (decide (0 ≤ (v' : Int) ∧ (v' : Int) ≤ 12 ∧ 2 ^ ((v' : Int).toNat - (v' : Int).toNat / 2) ≤ N / 2) = decide (2 ^ lo ≤ N / 2)) := by
        unfold Hid
        rw [Int.toNat_natCast, ← hlo]
        congr 1
        simp
        omega
      rw [HD.out]
      have q1 : (v' : Int).tdiv 2 = ((v' / 2 : Nat) : Int) := by rw [Int.tdiv_eq_ediv_of_nonneg (by omega)]; omega
      have q0 : (v' : Int) / 2 = ((v' / 2 : Nat) : Int) := by omega
      have q2 : IntKind.i64.wrap ((v' / 2 : Nat) : Int) = ((v' / 2 : Nat) : Int) := by rw [IntKind.wrap_i64]; omega
      have q3 : (v' : Int) - ((v' / 2 : Nat) : Int) = (lo : Int) := by omega
      have q4 : IntKind.i64.wrap (lo : Int) = (lo : Int) := by rw [IntKind.wrap_i64]; omega
      have n0 : (N : Int).tdiv 2 = ((N / 2 : Nat) : Int) := by rw [Int.tdiv_eq_ediv_of_nonneg (by omega)]; omega
      have n1 : (N : Int) / 2 = ((N / 2 : Nat) : Int) := by omega
      have n2 : IntKind.i64.wrap ((N / 2 : Nat) : Int) = ((N / 2 : Nat) : Int) := by rw [IntKind.wrap_i64]; omega
      have HTW := hid (rtwo_any lo W0 (by omega))
      obtain ⟨X, hX⟩ : ∃ X, X = 2 ^ lo := ⟨_, rfl⟩
      rw [← hX] at HTW ⊢
      have z1 : W0.cell? ⟨w.heap.size, 1, none⟩ = some (.int .i64 (N : Int)) := by simp [World.cell?, hs0]
      generalize v' / 2 = hh at *
      generalize N / 2 = H at *
      have HW0 := hid hW0
      clear hb0 hs0 hW0 HD hX hlo
      go_enter Tryz.func18, Tryz.ntmps18
      go_wp2_with fail
      rw [← HW0.out]
      clear HW0
      refine HTW.out.mono ?_
      rintro e w1 ⟨rfl, hw1⟩
      have hw1' := hw1.symm
      subst hw1'
      clear hw1
      go_wp2_with fail
      go_ret
      exact ⟨rfl, HB0.out⟩

end Go.Proofs.YtpgnabmkfkcogaaGreatDoor
