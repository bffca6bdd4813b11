/- attestref2: Point. -/
import Derived.Test.YtfppkjpgihnibaaGreatDoorPlain
import Derived.Test.YtfppkjpgihnibaaGreatDoorDoms
import Derived.Test.YtfppkjpgihnibaaGreatDoorRefs
import Derived.Test.YtfppkjpgihnibaaGreatDoorTres
import Derived.Deep.RegionHeld3
namespace Go.Proofs.YtfppkjpgihnibaaGreatDoor
open Go.RowKit

theorem four0 {W : World} {g : Nat} {a b c d : Value} {t : TypeId} (h : W.heap[g]? = some (.cells #[a, b, c, d] t (0, 0))) : W.cell? ⟨g, 0, none⟩ = some a := by simp [World.cell?, h]
theorem four1 {W : World} {g : Nat} {a b c d : Value} {t : TypeId} (h : W.heap[g]? = some (.cells #[a, b, c, d] t (0, 0))) : W.cell? ⟨g, 1, none⟩ = some b := by simp [World.cell?, h]
theorem four2 {W : World} {g : Nat} {a b c d : Value} {t : TypeId} (h : W.heap[g]? = some (.cells #[a, b, c, d] t (0, 0))) : W.cell? ⟨g, 2, none⟩ = some c := by simp [World.cell?, h]
theorem four3 {W : World} {g : Nat} {a b c d : Value} {t : TypeId} (h : W.heap[g]? = some (.cells #[a, b, c, d] t (0, 0))) : W.cell? ⟨g, 3, none⟩ = some d := by simp [World.cell?, h]

set_option maxRecDepth 100000 in
set_option maxHeartbeats 1000000 in
theorem rpoint_any (q i : Nat) (n r s : Int) (w : World) (h3 : 3 ≤ q) (h4 : q ≤ 2147483647) (hi : i ≤ 9223372036854775807) (hr0 : 0 ≤ r) (hr1 : r < q) (hs0 : 0 ≤ s) (hs1 : s < q) :
    Calls Tryz.prog 122 #[.agg #[.int .i64 q, .int .i64 n, .int .i64 s, .int .i64 r], .int .i64 (i : Int)] w fun e w' => e = .returned (.int .i64 (Dom.pt q s r i)) ∧ Below w.heap.size w w' := by
  have HP : Hid (∀ W, Calls Tryz.prog 153 #[.int .i64 q, .int .i64 r, .int .i64 (i : Int)] W fun e w' => e = .returned (.int .i64 (r ^ i % (q : Int))) ∧ w' = W) := fun W => by
    have h := rpow_nat q i r W h3 h4 (by omega) (by omega) hi
    rw [pwm_int q r i h3] at h
    exact h
  obtain ⟨b1, b2⟩ := emod_bounds (r ^ i) q h3
  have HM : Hid (∀ W, Calls Tryz.prog 96 #[.int .i64 q, .int .i64 (r ^ i % (q : Int)), .int .i64 s] W fun e w' => e = .returned (.int .i64 (Dom.pt q s r i)) ∧ w' = W) := fun W => by
    have h := rmul_any q (r ^ i % (q : Int)) s W h3 h4 (by omega) (by omega) (by omega) (by omega)
    rw [Int.mul_comm, Dom.pt_mul] at h
    exact h
  generalize r ^ i % (q : Int) = x at *
  generalize Dom.pt q s r i = y at *
  have HB : Hid (Below w.heap.size w (w.alloc (.cells #[.int .i64 q, .int .i64 n, .int .i64 s, .int .i64 r] 26))) := (Below.refl _ _).alloc (Nat.le_refl _) _
  go_enter Tryz.func122, Tryz.ntmps122
  go_wp2_with fail
  refine (HP.out _).mono ?_
  rintro e w1 ⟨rfl, rfl⟩
  go_wp2_with fail
  refine (HM.out _).mono ?_
  rintro e w1 ⟨rfl, rfl⟩
  go_wp2_with fail
  go_ret
  exact ⟨rfl, HB.out⟩

end Go.Proofs.YtfppkjpgihnibaaGreatDoor
