/- The field's method Div. -/
import Derived.Test.YtfijhnojflcajaeDoorFld
namespace Go.Proofs.YtfijhnojflcajaeDoor
open Go.RowKit

theorem div_any (p b : Nat) (x y : Int) (w : World) (hpr : Num.Prime p) (h3 : 3 ≤ p) (hm : p ≤ 2147483647) (hp : w.cell? ⟨b, 0, none⟩ = some (.int .i64 p))
    (hx : -9223372036854775808 ≤ x) (hx2 : x ≤ 9223372036854775807) (hy : -9223372036854775808 ≤ y) (hy2 : y ≤ 9223372036854775807) :
    Calls Tryd.prog 56 #[.pointer (some ⟨b, 0, none⟩), .int .i64 x, .int .i64 y] w fun e w' => e = .returned (.int .i64 (x * (invn p y : Int) % p)) ∧ w' = w := by
  have hl := invn_lt p y h3
  have hi := hid (inv_any p b y w h3 hm hp hy hy2)
  rw [inv_ref p y hpr h3] at hi
  have hmu := hid (mul_any p b x (invn p y) w h3 hm hp hx hx2 (by omega) (by omega))
  generalize invn p y = t at *
  clear hpr
  go_enter Tryd.func56, Tryd.ntmps56
  go_wp2_with fail
  refine hi.out.mono ?_
  rintro e w' ⟨rfl, rfl⟩
  go_wp2_with fail
  refine hmu.out.mono ?_
  rintro e w' ⟨rfl, rfl⟩
  go_wp2_with fail
  go_ret
  exact ⟨rfl, rfl⟩

end Go.Proofs.YtfijhnojflcajaeDoor
