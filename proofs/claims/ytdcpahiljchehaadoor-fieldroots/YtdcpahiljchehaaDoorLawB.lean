/- The laws FieldMakes, FieldPowers and FieldRoots answer true for every input, their calls by their contracts; package errors' own variable holds what its text lays. -/
import Derived.Test.YtdcpahiljchehaaDoorTold
import Derived.Test.YtdcpahiljchehaaDoorRefC
namespace Go.Proofs.YtdcpahiljchehaaDoor
open Go.RowKit

set_option maxHeartbeats 400000 in
theorem makes_walk (p n : Int) (w : World) (hL : Laid w) (hp1 : -9223372036854775808 ≤ p) (hp2 : p ≤ 9223372036854775807) (hn : -9223372036854775808 ≤ n) (hn2 : n ≤ 9223372036854775807) :
    Calls Tryd.prog 3 #[.int .i64 p, .int .i64 n] w fun e w' => e = .returned (.bool true) ∧ Below w.heap.size w w' := by
  by_cases hok : okPrime p
  · obtain ⟨q, rfl⟩ := Int.eq_ofNat_of_zero_le (show 0 ≤ p by have := hok.1; omega)
    obtain ⟨hq3, hq4, hqp⟩ := hok
    rw [Int.toNat_natCast] at hqp
    have h3 : 3 ≤ q := by omega
    have h4 : q ≤ 2147483647 := by omega
    have HP := hid hqp
    clear hqp hL
    go_enter Tryd.func3, Tryd.ntmps3
    go_wp2_with fail
    refine (field_yes q w h3 h4 HP.out).mono ?_
    rintro e w1 ⟨rfl, hc1, hb1, hlt1⟩
    have HB1 := hid hb1
    clear hb1
    go_wp2_with fail
    refine (p_any q w.heap.size w1 hc1).mono ?_
    rintro e w2 ⟨rfl, rfl⟩
    go_wp2_with fail
    refine (gen_any q w.heap.size w2 h3 h4 hc1 hlt1).mono ?_
    rintro e w3 ⟨g, rfl, hg, hb3⟩
    have hc3 := (hb3.cell (p := ⟨w.heap.size, 0, none⟩) hlt1).trans hc1
    have HB3 := hid hb3
    have HG := hid hg
    clear hb3 hg
    go_wp2_with fail
    refine (rgen_any q w3 HP.out h3 h4).mono ?_
    rintro e w4 ⟨g2, rfl, hg2, rfl⟩
    have hgg := Num.genIs_unique hg2 HG.out
    subst hgg
    clear hg2
    go_wp2_with fail
    refine (of_any q w.heap.size n w4 h3 h4 hc3 hn hn2).mono ?_
    rintro e w5 ⟨rfl, rfl⟩
    go_wp2_with fail
    refine (rof_any q n w5 h3 h4 hn hn2).mono ?_
    rintro e w6 ⟨rfl, rfl⟩
    go_wp2_with fail
    go_ret
    exact ⟨rfl, HB1.out.trans (HB3.out.mono (by omega))⟩
  · have HN := hid hok
    clear hok
    go_enter Tryd.func3, Tryd.ntmps3
    go_wp2_with fail
    refine (field_no p w hL HN.out hp1 hp2).mono ?_
    rintro e w1 ⟨rfl, hb1⟩
    have HB1 := hid hb1
    clear hb1
    go_wp2_with fail
    go_ret
    exact ⟨rfl, HB1.out⟩

/-- attestref1.Pow at any number -/
theorem rpow_any (q : Nat) (a n : Int) (w : World) (hp : Num.Prime q) (h3 : 3 ≤ q) (hm : q ≤ 2147483647) (ha : -9223372036854775808 ≤ a) (ha2 : a ≤ 9223372036854775807) (hn : -9223372036854775808 ≤ n) (hn2 : n ≤ 9223372036854775807) :
    Calls Tryd.prog 27 #[.int .i64 q, .int .i64 a, .int .i64 n] w fun e w' => e = .returned (.int .i64 (powz q a n)) ∧ w' = w := by
  by_cases h0 : 0 ≤ n
  · obtain ⟨N, rfl⟩ := Int.eq_ofNat_of_zero_le h0
    rw [powz_ref_nat q N a hp h3]
    exact rpow_nat q N a w h3 hm ha ha2 (by omega)
  · obtain ⟨N, hN⟩ := Int.eq_ofNat_of_zero_le (show 0 ≤ -n by omega)
    have e : n = -(N : Int) := by omega
    subst e
    rw [powz_ref_neg q N a hp h3 (by omega)]
    exact rpow_neg q N a w h3 hm ha ha2 (by omega) (by omega)

set_option maxHeartbeats 400000 in
theorem powers_walk (p a n : Int) (w : World) (hL : Laid w) (hp1 : -9223372036854775808 ≤ p) (hp2 : p ≤ 9223372036854775807) (ha : -9223372036854775808 ≤ a) (ha2 : a ≤ 9223372036854775807) (hn : -9223372036854775808 ≤ n) (hn2 : n ≤ 9223372036854775807) :
    Calls Tryd.prog 5 #[.int .i64 p, .int .i64 a, .int .i64 n] w fun e w' => e = .returned (.bool true) ∧ Below w.heap.size w w' := by
  by_cases hok : okPrime p
  · obtain ⟨q, rfl⟩ := Int.eq_ofNat_of_zero_le (show 0 ≤ p by have := hok.1; omega)
    obtain ⟨hq3, hq4, hqp⟩ := hok
    rw [Int.toNat_natCast] at hqp
    have h3 : 3 ≤ q := by omega
    have h4 : q ≤ 2147483647 := by omega
    have HP := hid hqp
    clear hqp hL
    go_enter Tryd.func5, Tryd.ntmps5
    go_wp2_with fail
    refine (field_yes q w h3 h4 HP.out).mono ?_
    rintro e w1 ⟨rfl, hc1, hb1, hlt1⟩
    have HB1 := hid hb1
    clear hb1
    go_wp2_with fail
    refine (pow_any q w.heap.size a n w1 h3 h4 hc1 ha ha2 hn hn2).mono ?_
    rintro e w2 ⟨rfl, rfl⟩
    go_wp2_with fail
    refine (rpow_any q a n w2 HP.out h3 h4 ha ha2 hn hn2).mono ?_
    rintro e w3 ⟨rfl, rfl⟩
    go_wp2_with fail
    refine (order_any q w.heap.size a w3 HP.out h3 h4 hc1 hlt1 ha ha2).mono ?_
    rintro e w4 ⟨k, rfl, hk0, hk1, hb4⟩
    have HB4 := hid hb4
    have HK0 := hid hk0
    have HK1 := hid hk1
    clear hb4 hk0 hk1
    go_wp2_with fail
    refine (rorder_any q a w4 HP.out h3 h4 ha ha2).mono ?_
    rintro e w5 ⟨m, rfl, hm0, hm1, rfl⟩
    have hkm : k = m := by
      by_cases hz : a % (q : Int) = 0
      · rw [HK0.out hz, hm0 hz]
      · exact Num.ord_leastDiv (by omega) (HK1.out hz) (hm1 hz)
    subst hkm
    clear hm0 hm1
    go_wp2_with fail
    go_ret
    exact ⟨rfl, HB1.out.trans (HB4.out.mono (by omega))⟩
  · have HN := hid hok
    clear hok
    go_enter Tryd.func5, Tryd.ntmps5
    go_wp2_with fail
    refine (field_no p w hL HN.out hp1 hp2).mono ?_
    rintro e w1 ⟨rfl, hb1⟩
    have HB1 := hid hb1
    clear hb1
    go_wp2_with fail
    go_ret
    exact ⟨rfl, HB1.out⟩

theorem rootIs_lt {p r : Nat} {n : Int} (h3 : 3 ≤ p) (h : RootIs p n r) : r < p := by
  rcases h with ⟨_, h⟩ | ⟨_, _, g, _, h⟩
  · omega
  · rw [h]; exact Num.pwm_lt _ _ _ (by omega)

theorem rootIs_order {p r k : Nat} {n : Int} (hp : Num.Prime p) (h3 : 3 ≤ p) (h : RootIs p n r) (hr : r ≠ 0) (hk : Num.Ord p r k) : (k : Int) = n := by
  rcases h with ⟨_, h⟩ | ⟨h1, h2, g, hg, h⟩
  · exact absurd h hr
  · obtain ⟨m, rfl⟩ := Int.eq_ofNat_of_zero_le (show 0 ≤ n by omega)
    rw [Int.toNat_natCast] at h
    have hd : m ∣ p - 1 := by
      have := Int.dvd_of_emod_eq_zero h2
      rw [show (p : Int) - 1 = ((p - 1 : Nat) : Int) from by omega] at this
      exact Int.ofNat_dvd.1 this
    have hq := Num.dvd_div_pos (by omega) hd
    rcases hg with ⟨g1, g2, g3, _⟩ | ⟨g1, _⟩
    · rw [h] at hk
      have := Num.root_ord hp g1 g2 g3 (by omega) hd hk
      omega
    · subst g1
      rw [pwm_zero_left p _ (by omega)] at h
      exact absurd h hr

set_option maxHeartbeats 400000 in
theorem roots_walk (p n : Int) (w : World) (hL : Laid w) (hp1 : -9223372036854775808 ≤ p) (hp2 : p ≤ 9223372036854775807) (hn : -9223372036854775808 ≤ n) (hn2 : n ≤ 9223372036854775807) :
    Calls Tryd.prog 6 #[.int .i64 p, .int .i64 n] w fun e w' => e = .returned (.bool true) ∧ Below w.heap.size w w' := by
  by_cases hok : okPrime p
  · obtain ⟨q, rfl⟩ := Int.eq_ofNat_of_zero_le (show 0 ≤ p by have := hok.1; omega)
    obtain ⟨hq3, hq4, hqp⟩ := hok
    rw [Int.toNat_natCast] at hqp
    have h3 : 3 ≤ q := by omega
    have h4 : q ≤ 2147483647 := by omega
    have HP := hid hqp
    clear hqp hL
    go_enter Tryd.func6, Tryd.ntmps6
    go_wp2_with fail
    refine (field_yes q w h3 h4 HP.out).mono ?_
    rintro e w1 ⟨rfl, hc1, hb1, hlt1⟩
    have HB1 := hid hb1
    clear hb1
    go_wp2_with fail
    refine (root_any q w.heap.size n w1 HP.out h3 h4 hc1 hlt1 hn hn2).mono ?_
    rintro e w2 ⟨r, rfl, hr, hb2⟩
    have hc2 := (hb2.cell (p := ⟨w.heap.size, 0, none⟩) hlt1).trans hc1
    have hs2 := hb2.size
    have HB2 := hid hb2
    have HR := hid hr
    have hrlt := rootIs_lt h3 hr
    clear hb2 hr
    go_wp2_with fail
    refine (rroot_any q n w2 HP.out h3 h4 hn hn2).mono ?_
    rintro e w3 ⟨r2, rfl, hr2, rfl⟩
    have hrr := rootIs_unique hr2 HR.out
    subst hrr
    clear hr2
    by_cases hz : r2 = 0
    · subst hz
      go_wp2_with fail
      go_ret
      exact ⟨rfl, HB1.out.trans (HB2.out.mono (by omega))⟩
    · have hzb : ((r2 : Int) == 0) = false := by rw [beq_eq_false_iff_ne]; omega
      go_wp2_with fail
      refine (order_any q w.heap.size (r2 : Int) w3 HP.out h3 h4 hc2 (by omega) (by omega) (by omega)).mono ?_
      rintro e w4 ⟨k, rfl, hk0, hk1, hb4⟩
      have hkn : (k : Int) = n := by
        have hne : (r2 : Int) % (q : Int) ≠ 0 := by rw [Int.emod_eq_of_lt (by omega) (by omega)]; omega
        have := hk1 hne
        rw [el_nat q r2 hrlt] at this
        exact rootIs_order HP.out h3 HR.out hz this
      have HB4 := hid hb4
      have hknb : ((k : Int) == n) = true := by rw [beq_iff_eq]; exact hkn
      clear hk0 hk1 hb4 hkn
      go_wp2_with fail
      go_ret
      exact ⟨rfl, HB1.out.trans ((HB2.out.mono (by omega)).trans (HB4.out.mono (by omega)))⟩
  · have HN := hid hok
    clear hok
    go_enter Tryd.func6, Tryd.ntmps6
    go_wp2_with fail
    refine (field_no p w hL HN.out hp1 hp2).mono ?_
    rintro e w1 ⟨rfl, hb1⟩
    have HB1 := hid hb1
    clear hb1
    go_wp2_with fail
    go_ret
    exact ⟨rfl, HB1.out⟩

end Go.Proofs.YtdcpahiljchehaaDoor
