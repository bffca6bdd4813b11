/- What New answers: of a prime that may be a field, of any other number none. -/
import Derived.Test.YtidkhgplejglaacDoorWalkA
namespace Go.Proofs.YtidkhgplejglaacDoor
open Go.RowKit

/-- a number that is a prime that may be -/
def okPrime (p : Int) : Prop := 3 ≤ p ∧ p ≤ 2147483647 ∧ Num.Prime p.toNat

set_option maxHeartbeats 400000 in
theorem new_no (p : Int) (w : World) (hno : ¬ okPrime p) (h1 : -9223372036854775808 ≤ p) (h2 : p ≤ 9223372036854775807) :
    Calls Tryd.prog 39 #[.int .i64 p] w fun e w' => e = .returned (.tuple #[.pointer none, .iface 61 (.int .i64 1)]) ∧ w' = w := by
  by_cases h3 : p < 3
  · go_enter Tryd.func39, Tryd.ntmps39
    go_wp2_with fail
    go_ret2
    exact ⟨rfl, rfl⟩
  · by_cases h4 : 2147483647 < p
    · go_enter Tryd.func39, Tryd.ntmps39
      go_wp2_with fail
      go_ret2
      exact ⟨rfl, rfl⟩
    · obtain ⟨q, rfl⟩ := Int.eq_ofNat_of_zero_le (show 0 ≤ p by omega)
      have HN := hid hno
      clear hno
      go_enter Tryd.func39, Tryd.ntmps39
      go_wp2_with fail
      refine (least_any q _ (by omega) (by omega)).mono ?_
      rintro e w1 ⟨d, rfl, hl, rfl⟩
      have hne : ((d : Int) != (q : Int)) = true := by
        rw [bne_iff_ne]; intro g
        have g2 : d = q := by omega
        subst g2
        exact HN.out ⟨by omega, by omega, by rw [Int.toNat_natCast]; exact Num.least_prime hl⟩
      clear hl
      go_wp2_with fail
      go_ret2
      exact ⟨rfl, rfl⟩

set_option maxHeartbeats 400000 in
theorem new_yes (q : Nat) (w : World) (h3 : 3 ≤ q) (h4 : q ≤ 2147483647) (hq : Num.Prime q) :
    Calls Tryd.prog 39 #[.int .i64 q] w fun e w' => e = .returned (.tuple #[.pointer (some ⟨w.heap.size, 0, none⟩), .nilIface]) ∧ w'.cell? ⟨w.heap.size, 0, none⟩ = some (.int .i64 q) ∧ Below w.heap.size w w' ∧ w.heap.size < w'.heap.size := by
  have HQ := hid hq
  clear hq
  go_enter Tryd.func39, Tryd.ntmps39
  go_wp2_with fail
  refine (least_any q _ (by omega) (by omega)).mono ?_
  rintro e w1 ⟨d, rfl, hl, rfl⟩
  have hdq := Num.least_unique hl (Num.prime_least HQ.out)
  subst hdq
  clear hl
  go_wp2_with fail
  go_ret2
  exact ⟨rfl, by simp, (Below.refl _ _).alloc (Nat.le_refl _) _, by simp⟩

end Go.Proofs.YtidkhgplejglaacDoor
