/- The law FieldReckons answers true for every input: sums, differences, products, what makes 1, quotients. -/
import Derived.Test.YtdcpahiljchehaaDoorTold
import Derived.Test.YtdcpahiljchehaaDoorRef
import Derived.Test.YtdcpahiljchehaaDoorInts
namespace Go.Proofs.YtdcpahiljchehaaDoor
open Go.RowKit

theorem make6 : ∀ w : World, (Instr.makeSlice 29 (.int .i64 6) (.int .i64 6)).run Tryd.prog w = .ok (.slice (some ⟨w.heap.size, 0, none⟩) 6 6) (w.alloc (.cells #[.int .i64 0, .int .i64 0, .int .i64 0, .int .i64 0, .int .i64 0, .int .i64 0] 3)) := fun _ => by kernel_rfl

theorem rows6 (w1 : World) (x0 x1 x2 x3 x4 x5 : Int) :
    RowZ ((w1.alloc (.cells #[.int .i64 x0, .int .i64 x1, .int .i64 x2, .int .i64 x3, .int .i64 x4, .int .i64 x5] 3)).alloc (.cells #[.int .i64 x0, .int .i64 x1, .int .i64 x2, .int .i64 x3, .int .i64 x4, .int .i64 x5] 3)) (.slice (some ⟨w1.heap.size, 0, none⟩) 6 6) [x0, x1, x2, x3, x4, x5] ∧
    RowZ ((w1.alloc (.cells #[.int .i64 x0, .int .i64 x1, .int .i64 x2, .int .i64 x3, .int .i64 x4, .int .i64 x5] 3)).alloc (.cells #[.int .i64 x0, .int .i64 x1, .int .i64 x2, .int .i64 x3, .int .i64 x4, .int .i64 x5] 3)) (.slice (some ⟨w1.heap.size + 1, 0, none⟩) 6 6) [x0, x1, x2, x3, x4, x5] := by
  refine ⟨⟨_, _, rfl, fun k hk => ⟨w1.heap.size, 0, rfl, ?_⟩⟩, ⟨_, _, rfl, fun k hk => ⟨w1.heap.size + 1, 0, rfl, ?_⟩⟩⟩
  · have h6 : k = 0 ∨ k = 1 ∨ k = 2 ∨ k = 3 ∨ k = 4 ∨ k = 5 := by simp at hk; omega
    rcases h6 with rfl | rfl | rfl | rfl | rfl | rfl <;> simp
  · have h6 : k = 0 ∨ k = 1 ∨ k = 2 ∨ k = 3 ∨ k = 4 ∨ k = 5 := by simp at hk; omega
    rcases h6 with rfl | rfl | rfl | rfl | rfl | rfl <;> simp

set_option maxHeartbeats 1000000 in
theorem reckons_walk (p a b : Int) (w : World) (hL : Laid w) (hp1 : -9223372036854775808 ≤ p) (hp2 : p ≤ 9223372036854775807) (ha : -9223372036854775808 ≤ a) (ha2 : a ≤ 9223372036854775807) (hb : -9223372036854775808 ≤ b) (hb2 : b ≤ 9223372036854775807) :
    Calls Tryd.prog 4 #[.int .i64 p, .int .i64 a, .int .i64 b] w fun e w' => e = .returned (.bool true) ∧ Below w.heap.size w w' := by
  by_cases hok : okPrime p
  · obtain ⟨q, rfl⟩ := Int.eq_ofNat_of_zero_le (show 0 ≤ p by have := hok.1; omega)
    obtain ⟨hq3, hq4, hqp⟩ := hok
    rw [Int.toNat_natCast] at hqp
    have h3 : 3 ≤ q := by omega
    have h4 : q ≤ 2147483647 := by omega
    have HP := hid hqp
    have HI := hid (inv_ref q a hqp h3)
    have hmk := make6
    clear hqp hL
    go_enter Tryd.func4, Tryd.ntmps4
    go_wp2_with fail
    refine (field_yes q w h3 h4 HP.out).mono ?_
    rintro e w1 ⟨rfl, hc1, hb1, hlt1⟩
    have HB1 := hid hb1
    have HC : Hid (∀ o : Obj, (w1.alloc o).cell? ⟨w.heap.size, 0, none⟩ = some (.int .i64 q)) := by
      intro o
      rw [World.cell?_alloc_lt _ _ ⟨w.heap.size, 0, none⟩ hlt1]; exact hc1
    clear hb1
    go_wp2_with fail
    refine (add_any q w.heap.size a b _ h3 h4 (HC.out _) ha ha2 hb hb2).mono ?_
    rintro e w2 ⟨rfl, rfl⟩
    go_wp2_with fail
    refine (sub_any q w.heap.size a b _ h3 h4 (HC.out _) ha ha2 hb hb2).mono ?_
    rintro e w3 ⟨rfl, rfl⟩
    go_wp2_with fail
    refine (mul_any q w.heap.size a b _ h3 h4 (HC.out _) ha ha2 hb hb2).mono ?_
    rintro e w4 ⟨rfl, rfl⟩
    go_wp2_with fail
    refine (neg_any q w.heap.size a _ h3 h4 (HC.out _) ha ha2).mono ?_
    rintro e w5 ⟨rfl, rfl⟩
    go_wp2_with fail
    refine (inv_any q w.heap.size a _ h3 h4 (HC.out _) ha ha2).mono ?_
    rintro e w6 ⟨rfl, rfl⟩
    rw [HI.out]
    go_wp2_with fail
    refine (div_any q w.heap.size a b _ HP.out h3 h4 (HC.out _) ha ha2 hb hb2).mono ?_
    rintro e w7 ⟨rfl, rfl⟩
    go_wp2_with fail
    refine (radd_any q a b _ h3 h4 ha ha2 hb hb2).mono ?_
    rintro e w20 ⟨rfl, rfl⟩
    go_wp2_with fail
    refine (rsub_any q a b _ h3 h4 ha ha2 hb hb2).mono ?_
    rintro e w21 ⟨rfl, rfl⟩
    go_wp2_with fail
    refine (rmul_any q a b _ h3 h4 ha ha2 hb hb2).mono ?_
    rintro e w22 ⟨rfl, rfl⟩
    go_wp2_with fail
    refine (rsub_any q 0 a _ h3 h4 (by omega) (by omega) ha ha2).mono ?_
    rintro e w23 ⟨rfl, rfl⟩
    go_wp2_with fail
    refine (rinv_any q a _ h3 h4 ha ha2).mono ?_
    rintro e w24 ⟨rfl, rfl⟩
    go_wp2_with fail
    refine (rdiv_any q a b _ h3 h4 ha ha2 hb hb2).mono ?_
    rintro e w25 ⟨rfl, rfl⟩
    go_wp2_with fail
    have HR := hid (rows6 w1 ((a + b) % q) ((a - b) % q) (a * b % q) (-a % q) (invn q a) (a * (invn q b : Int) % q))
    refine (ints_any _ _ _ _ _ HR.out.1 HR.out.2 (by simp) (by simp)).mono ?_
    rintro e w9 ⟨rfl, n, rfl⟩
    go_wp2_with fail
    go_ret
    exact ⟨ret_bool (by simp), below_drewN (((HB1.out).alloc (by omega) _).alloc (by simp; omega) _) n⟩
  · have HN := hid hok
    clear hok
    go_enter Tryd.func4, Tryd.ntmps4
    go_wp2_with fail
    refine (field_no p w hL HN.out hp1 hp2).mono ?_
    rintro e w1 ⟨rfl, hb1⟩
    have HB1 := hid hb1
    clear hb1
    go_wp2_with fail
    go_ret
    exact ⟨rfl, HB1.out⟩

end Go.Proofs.YtdcpahiljchehaaDoor
