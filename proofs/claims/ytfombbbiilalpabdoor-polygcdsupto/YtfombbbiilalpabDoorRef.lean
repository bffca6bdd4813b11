/- What package attestref1 answers of sums, differences, products and quotients; and the field's methods Add, Sub, Neg, Div. -/
import Derived.Test.YtfombbbiilalpabDoorRefA
import Derived.Test.YtfombbbiilalpabDoorNumB
namespace Go.Proofs.YtfombbbiilalpabDoor
open Go.RowKit

set_option maxHeartbeats 400000 in
theorem radd_any (p : Nat) (x y : Int) (w : World) (h3 : 3 ≤ p) (hm : p ≤ 2147483647)
    (hx : -9223372036854775808 ≤ x) (hx2 : x ≤ 9223372036854775807) (hy : -9223372036854775808 ≤ y) (hy2 : y ≤ 9223372036854775807) :
    Calls Tryd.prog 49 #[.int .i64 p, .int .i64 x, .int .i64 y] w fun e w' => e = .returned (.int .i64 ((x + y) % p)) ∧ w' = w := by
  obtain ⟨a1, a2⟩ := emod_bounds x p h3
  obtain ⟨b1, b2⟩ := emod_bounds y p h3
  go_enter Tryd.func49, Tryd.ntmps49
  go_wp2_with fail
  refine (rof_any p x w h3 hm hx hx2).mono ?_
  rintro e w' ⟨rfl, rfl⟩
  go_wp2_with fail
  refine (rof_any p y _ h3 hm hy hy2).mono ?_
  rintro e w' ⟨rfl, rfl⟩
  go_wp2_with fail
  go_ret
  exact ⟨ret_int (Int.add_emod x y p).symm, rfl⟩

theorem sub_fix (x y : Int) (p : Nat) : (x % p + p - y % p) % (p : Int) = (x - y) % p := by
  rw [Int.sub_emod x y p, show x % (p : Int) + p - y % p = (x % p - y % p) + p from by omega, Int.add_emod_right]

set_option maxHeartbeats 400000 in
theorem rsub_any (p : Nat) (x y : Int) (w : World) (h3 : 3 ≤ p) (hm : p ≤ 2147483647)
    (hx : -9223372036854775808 ≤ x) (hx2 : x ≤ 9223372036854775807) (hy : -9223372036854775808 ≤ y) (hy2 : y ≤ 9223372036854775807) :
    Calls Tryd.prog 63 #[.int .i64 p, .int .i64 x, .int .i64 y] w fun e w' => e = .returned (.int .i64 ((x - y) % p)) ∧ w' = w := by
  obtain ⟨a1, a2⟩ := emod_bounds x p h3
  obtain ⟨b1, b2⟩ := emod_bounds y p h3
  have hf := hid (sub_fix x y p)
  go_enter Tryd.func63, Tryd.ntmps63
  go_wp2_with fail
  refine (rof_any p x w h3 hm hx hx2).mono ?_
  rintro e w' ⟨rfl, rfl⟩
  go_wp2_with fail
  refine (rof_any p y _ h3 hm hy hy2).mono ?_
  rintro e w' ⟨rfl, rfl⟩
  go_wp2_with fail
  go_ret
  exact ⟨ret_int hf.out, rfl⟩

set_option maxHeartbeats 400000 in
theorem rmul_any (p : Nat) (x y : Int) (w : World) (h3 : 3 ≤ p) (hm : p ≤ 2147483647)
    (hx : -9223372036854775808 ≤ x) (hx2 : x ≤ 9223372036854775807) (hy : -9223372036854775808 ≤ y) (hy2 : y ≤ 9223372036854775807) :
    Calls Tryd.prog 30 #[.int .i64 p, .int .i64 x, .int .i64 y] w fun e w' => e = .returned (.int .i64 (x * y % p)) ∧ w' = w := by
  obtain ⟨a1, a2⟩ := emod_bounds x p h3
  obtain ⟨b1, b2⟩ := emod_bounds y p h3
  obtain ⟨c1, c2⟩ := mul_small (x % p) (y % p) a1 (by omega) b1 (by omega)
  go_enter Tryd.func30, Tryd.ntmps30
  go_wp2_with fail
  refine (rof_any p x w h3 hm hx hx2).mono ?_
  rintro e w' ⟨rfl, rfl⟩
  go_wp2_with fail
  refine (rof_any p y _ h3 hm hy hy2).mono ?_
  rintro e w' ⟨rfl, rfl⟩
  go_wp2_with fail
  go_ret
  exact ⟨ret_int (Int.mul_emod x y p).symm, rfl⟩

set_option maxHeartbeats 400000 in
theorem add_any (p b : Nat) (x y : Int) (w : World) (h3 : 3 ≤ p) (hm : p ≤ 2147483647) (hp : w.cell? ⟨b, 0, none⟩ = some (.int .i64 p))
    (hx : -9223372036854775808 ≤ x) (hx2 : x ≤ 9223372036854775807) (hy : -9223372036854775808 ≤ y) (hy2 : y ≤ 9223372036854775807) :
    Calls Tryd.prog 45 #[.pointer (some ⟨b, 0, none⟩), .int .i64 x, .int .i64 y] w fun e w' => e = .returned (.int .i64 ((x + y) % p)) ∧ w' = w := by
  obtain ⟨a1, a2⟩ := emod_bounds x p h3
  obtain ⟨b1, b2⟩ := emod_bounds y p h3
  go_enter Tryd.func45, Tryd.ntmps45
  go_wp2_with fail
  refine (of_any p b x w h3 hm hp hx hx2).mono ?_
  rintro e w' ⟨rfl, rfl⟩
  go_wp2_with fail
  refine (of_any p b y _ h3 hm hp hy hy2).mono ?_
  rintro e w' ⟨rfl, rfl⟩
  go_wp2_with fail
  refine (of_any p b _ _ h3 hm hp (by omega) (by omega)).mono ?_
  rintro e w' ⟨rfl, rfl⟩
  go_wp2_with fail
  go_ret
  exact ⟨rfl, rfl⟩

set_option maxHeartbeats 400000 in
theorem sub_any (p b : Nat) (x y : Int) (w : World) (h3 : 3 ≤ p) (hm : p ≤ 2147483647) (hp : w.cell? ⟨b, 0, none⟩ = some (.int .i64 p))
    (hx : -9223372036854775808 ≤ x) (hx2 : x ≤ 9223372036854775807) (hy : -9223372036854775808 ≤ y) (hy2 : y ≤ 9223372036854775807) :
    Calls Tryd.prog 46 #[.pointer (some ⟨b, 0, none⟩), .int .i64 x, .int .i64 y] w fun e w' => e = .returned (.int .i64 ((x - y) % p)) ∧ w' = w := by
  obtain ⟨a1, a2⟩ := emod_bounds x p h3
  obtain ⟨b1, b2⟩ := emod_bounds y p h3
  go_enter Tryd.func46, Tryd.ntmps46
  go_wp2_with fail
  refine (of_any p b x w h3 hm hp hx hx2).mono ?_
  rintro e w' ⟨rfl, rfl⟩
  go_wp2_with fail
  refine (of_any p b y _ h3 hm hp hy hy2).mono ?_
  rintro e w' ⟨rfl, rfl⟩
  go_wp2_with fail
  refine (of_any p b _ _ h3 hm hp (by omega) (by omega)).mono ?_
  rintro e w' ⟨rfl, rfl⟩
  go_wp2_with fail
  go_ret
  exact ⟨rfl, rfl⟩

theorem neg_any (p b : Nat) (x : Int) (w : World) (h3 : 3 ≤ p) (hm : p ≤ 2147483647) (hp : w.cell? ⟨b, 0, none⟩ = some (.int .i64 p))
    (hx : -9223372036854775808 ≤ x) (hx2 : x ≤ 9223372036854775807) :
    Calls Tryd.prog 53 #[.pointer (some ⟨b, 0, none⟩), .int .i64 x] w fun e w' => e = .returned (.int .i64 ((0 - x) % p)) ∧ w' = w := by
  go_enter Tryd.func53, Tryd.ntmps53
  go_wp2_with fail
  refine (sub_any p b 0 x w h3 hm hp (by omega) (by omega) hx hx2).mono ?_
  rintro e w' ⟨rfl, rfl⟩
  go_wp2_with fail
  go_ret
  exact ⟨ret_int (by simp), rfl⟩

theorem rdiv_any (p : Nat) (x y : Int) (w : World) (h3 : 3 ≤ p) (hm : p ≤ 2147483647)
    (hx : -9223372036854775808 ≤ x) (hx2 : x ≤ 9223372036854775807) (hy : -9223372036854775808 ≤ y) (hy2 : y ≤ 9223372036854775807) :
    Calls Tryd.prog 56 #[.int .i64 p, .int .i64 x, .int .i64 y] w fun e w' => e = .returned (.int .i64 (x * (invn p y : Int) % p)) ∧ w' = w := by
  have hl := invn_lt p y h3
  have hi := hid (rinv_any p y w h3 hm hy hy2)
  have hmu := hid (rmul_any p x (invn p y) w h3 hm hx hx2 (by omega) (by omega))
  generalize invn p y = t at *
  go_enter Tryd.func56, Tryd.ntmps56
  go_wp2_with fail
  refine hi.out.mono ?_
  rintro e w' ⟨rfl, rfl⟩
  go_wp2_with fail
  refine hmu.out.mono ?_
  rintro e w' ⟨rfl, rfl⟩
  go_wp2_with fail
  go_ret
  exact ⟨rfl, rfl⟩

end Go.Proofs.YtfombbbiilalpabDoor
