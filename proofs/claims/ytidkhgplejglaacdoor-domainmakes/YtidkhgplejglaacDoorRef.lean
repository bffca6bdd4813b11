/- What package attestref1 answers of sums, differences, products and quotients; and the field's methods Add, Sub, Neg, Div. -/
import Derived.Test.YtidkhgplejglaacDoorRefA
import Derived.Test.YtidkhgplejglaacDoorNumB
namespace Go.Proofs.YtidkhgplejglaacDoor
open Go.RowKit

theorem sub_fix (x y : Int) (p : Nat) : (x % p + p - y % p) % (p : Int) = (x - y) % p := by
  rw [Int.sub_emod x y p, show x % (p : Int) + p - y % p = (x % p - y % p) + p from by omega, Int.add_emod_right]

set_option maxHeartbeats 400000 in
theorem rmul_any (p : Nat) (x y : Int) (w : World) (h3 : 3 ≤ p) (hm : p ≤ 2147483647)
    (hx : -9223372036854775808 ≤ x) (hx2 : x ≤ 9223372036854775807) (hy : -9223372036854775808 ≤ y) (hy2 : y ≤ 9223372036854775807) :
    Calls Tryd.prog 28 #[.int .i64 p, .int .i64 x, .int .i64 y] w fun e w' => e = .returned (.int .i64 (x * y % p)) ∧ w' = w := by
  obtain ⟨a1, a2⟩ := emod_bounds x p h3
  obtain ⟨b1, b2⟩ := emod_bounds y p h3
  obtain ⟨c1, c2⟩ := mul_small (x % p) (y % p) a1 (by omega) b1 (by omega)
  go_enter Tryd.func28, Tryd.ntmps28
  go_wp2_with fail
  refine (rof_any p x w h3 hm hx hx2).mono ?_
  rintro e w' ⟨rfl, rfl⟩
  go_wp2_with fail
  refine (rof_any p y _ h3 hm hy hy2).mono ?_
  rintro e w' ⟨rfl, rfl⟩
  go_wp2_with fail
  go_ret
  exact ⟨ret_int (Int.mul_emod x y p).symm, rfl⟩

set_option maxHeartbeats 400000 in
theorem add_any (p b : Nat) (x y : Int) (w : World) (h3 : 3 ≤ p) (hm : p ≤ 2147483647) (hp : w.cell? ⟨b, 0, none⟩ = some (.int .i64 p))
    (hx : -9223372036854775808 ≤ x) (hx2 : x ≤ 9223372036854775807) (hy : -9223372036854775808 ≤ y) (hy2 : y ≤ 9223372036854775807) :
    Calls Tryd.prog 48 #[.pointer (some ⟨b, 0, none⟩), .int .i64 x, .int .i64 y] w fun e w' => e = .returned (.int .i64 ((x + y) % p)) ∧ w' = w := by
  obtain ⟨a1, a2⟩ := emod_bounds x p h3
  obtain ⟨b1, b2⟩ := emod_bounds y p h3
  go_enter Tryd.func48, Tryd.ntmps48
  go_wp2_with fail
  refine (of_any p b x w h3 hm hp hx hx2).mono ?_
  rintro e w' ⟨rfl, rfl⟩
  go_wp2_with fail
  refine (of_any p b y _ h3 hm hp hy hy2).mono ?_
  rintro e w' ⟨rfl, rfl⟩
  go_wp2_with fail
  refine (of_any p b _ _ h3 hm hp (by omega) (by omega)).mono ?_
  rintro e w' ⟨rfl, rfl⟩
  go_wp2_with fail
  go_ret
  exact ⟨rfl, rfl⟩

set_option maxHeartbeats 400000 in
theorem sub_any (p b : Nat) (x y : Int) (w : World) (h3 : 3 ≤ p) (hm : p ≤ 2147483647) (hp : w.cell? ⟨b, 0, none⟩ = some (.int .i64 p))
    (hx : -9223372036854775808 ≤ x) (hx2 : x ≤ 9223372036854775807) (hy : -9223372036854775808 ≤ y) (hy2 : y ≤ 9223372036854775807) :
    Calls Tryd.prog 49 #[.pointer (some ⟨b, 0, none⟩), .int .i64 x, .int .i64 y] w fun e w' => e = .returned (.int .i64 ((x - y) % p)) ∧ w' = w := by
  obtain ⟨a1, a2⟩ := emod_bounds x p h3
  obtain ⟨b1, b2⟩ := emod_bounds y p h3
  go_enter Tryd.func49, Tryd.ntmps49
  go_wp2_with fail
  refine (of_any p b x w h3 hm hp hx hx2).mono ?_
  rintro e w' ⟨rfl, rfl⟩
  go_wp2_with fail
  refine (of_any p b y _ h3 hm hp hy hy2).mono ?_
  rintro e w' ⟨rfl, rfl⟩
  go_wp2_with fail
  refine (of_any p b _ _ h3 hm hp (by omega) (by omega)).mono ?_
  rintro e w' ⟨rfl, rfl⟩
  go_wp2_with fail
  go_ret
  exact ⟨rfl, rfl⟩

end Go.Proofs.YtidkhgplejglaacDoor
