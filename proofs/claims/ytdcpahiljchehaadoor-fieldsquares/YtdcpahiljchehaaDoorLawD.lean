/- The law FieldSquares answers true for every input, its calls by their contracts; the library's variables hold what their texts lay. -/
import Derived.Test.YtdcpahiljchehaaDoorTold
import Derived.Test.YtdcpahiljchehaaDoorSqrt
namespace Go.Proofs.YtdcpahiljchehaaDoor
open Go.RowKit Go.Shelf

theorem tab_below {w w' : World} (h : TabAt 2 Lib.deBruijn64tab w) (hb : Below w.heap.size w w') : TabAt 2 Lib.deBruijn64tab w' :=
  fun j hj => (hb.cell (p := ⟨2, j, none⟩) (cell_lt (h j hj))).trans (h j hj)

set_option maxHeartbeats 400000 in
theorem squares_walk (p a : Int) (w : World) (hL : Laid w) (hT : TabAt 2 Lib.deBruijn64tab w) (hp1 : -9223372036854775808 ≤ p) (hp2 : p ≤ 9223372036854775807) (ha : -9223372036854775808 ≤ a) (ha2 : a ≤ 9223372036854775807) :
    Calls Tryd.prog 7 #[.int .i64 p, .int .i64 a] w fun e w' => e = .returned (.bool true) ∧ Below w.heap.size w w' := by
  by_cases hok : okPrime p
  · obtain ⟨q, rfl⟩ := Int.eq_ofNat_of_zero_le (show 0 ≤ p by have := hok.1; omega)
    obtain ⟨hq3, hq4, hqp⟩ := hok
    rw [Int.toNat_natCast] at hqp
    have h3 : 3 ≤ q := by omega
    have h4 : q ≤ 2147483647 := by omega
    have HP := hid hqp
    have HT := hid hT
    have HPW : Hid (∀ w : World, Calls Tryd.prog 27 #[.int .i64 q, .int .i64 a, .int .i64 (((q : Int) - 1) / 2)] w fun e w' => e = .returned (.int .i64 (Num.pwm q (el q a) ((q - 1) / 2))) ∧ w' = w) := by
      intro w
      have := rpow_nat q ((q - 1) / 2) a w h3 h4 ha ha2 (by omega)
      rw [← half_cast q h3] at this
      exact this
    have hec := el_cast q a h3
    have hel := el_lt q a h3
    clear hqp hL hT
    by_cases hz : a % (q : Int) = 0
    · have HZ := hid hz
      have hez : el q a = 0 := by omega
      generalize Num.pwm q (el q a) ((q - 1) / 2) = X at *
      clear hec hel hez hz
      go_enter Tryd.func7, Tryd.ntmps7
      go_wp2_with fail
      refine (field_yes q w h3 h4 HP.out).mono ?_
      rintro e w1 ⟨rfl, hc1, hb1, hlt1⟩
      have HB1 := hid hb1
      clear hb1
      go_wp2_with fail
      refine (sqrt_zero q w.heap.size a w1 h3 h4 hc1 ha ha2 HZ.out).mono ?_
      rintro e w2 ⟨rfl, rfl⟩
      go_wp2_with fail
      refine (rof_any q a w2 h3 h4 ha ha2).mono ?_
      rintro e w3 ⟨rfl, rfl⟩
      rw [HZ.out]
      go_wp2_with fail
      refine (HPW.out _).mono ?_
      rintro e w4 ⟨rfl, rfl⟩
      go_wp2_with fail
      refine (rmul_any q 0 0 _ h3 h4 (by omega) (by omega) (by omega) (by omega)).mono ?_
      rintro e w5 ⟨rfl, rfl⟩
      go_wp2_with fail
      go_ret
      exact ⟨rfl, HB1.out⟩
    · have HZ := hid hz
      by_cases hsq : isSq q (el q a) = true
      · have HSQ := hid hsq
        have hone := isSq_true.1 hsq
        have hes : el q a ≠ 0 := by intro h; rw [h] at hec; exact hz hec.symm
        rw [hone] at HPW
        have HOF : Hid (∀ w : World, Calls Tryd.prog 13 #[.int .i64 q, .int .i64 a] w fun e w' => e = .returned (.int .i64 (el q a)) ∧ w' = w) := by
          intro w
          have := rof_any q a w h3 h4 ha ha2
          rw [← hec] at this
          exact this
        have HSY : Hid (∀ w1 : World, w1.cell? ⟨w.heap.size, 0, none⟩ = some (.int .i64 q) → TabAt 2 Lib.deBruijn64tab w1 → Calls Tryd.prog 32 #[.pointer (some ⟨w.heap.size, 0, none⟩), .int .i64 a] w1 fun e w' => ∃ r : Nat, e = .returned (.tuple #[.int .i64 r, .bool true]) ∧ SqrtIs q (el q a) r ∧ w' = w1) :=
          fun w1 h1 h2 => sqrt_yes q w.heap.size a w1 HP.out h3 h4 h1 h2 ha ha2 hz hsq
        generalize el q a = s at *
        have hsb : ((s : Int) == 0) = false := by rw [beq_eq_false_iff_ne]; omega
        clear hz hec hsq hone hes
        go_enter Tryd.func7, Tryd.ntmps7
        go_wp2_with fail
        refine (field_yes q w h3 h4 HP.out).mono ?_
        rintro e w1 ⟨rfl, hc1, hb1, hlt1⟩
        have HB1 := hid hb1
        clear hb1
        go_wp2_with fail
        refine (HSY.out w1 hc1 (tab_below HT.out HB1.out)).mono ?_
        rintro e w2 ⟨r, rfl, hr, rfl⟩
        obtain ⟨hr1, hr2, hr3⟩ := hr
        have HR3 := hid hr3
        clear hr3
        go_wp2_with fail
        refine (HOF.out w2).mono ?_
        rintro e w3 ⟨rfl, rfl⟩
        go_wp2_with fail
        refine (HPW.out _).mono ?_
        rintro e w4 ⟨rfl, rfl⟩
        go_wp2_with fail
        refine (rmul_any q (r : Int) (r : Int) _ h3 h4 (by omega) (by omega) (by omega) (by omega)).mono ?_
        rintro e w5 ⟨rfl, rfl⟩
        rw [show (r : Int) * (r : Int) % (q : Int) = ((r * r % q : Nat) : Int) from by simp, HR3.out]
        have hg1 : (0 : Int) ≤ (r : Int) := by omega
        have hg2 : (r : Int) ≤ (q : Int) - (r : Int) := by omega
        go_wp2_with fail
        go_ret
        exact ⟨rfl, HB1.out⟩
      · have hsf : isSq q (el q a) = false := by simpa using hsq
        have hne : Num.pwm q (el q a) ((q - 1) / 2) ≠ 1 := fun h => hsq (isSq_true.2 h)
        have hes : el q a ≠ 0 := by intro h; rw [h] at hec; exact hz hec.symm
        have HOF : Hid (∀ w : World, Calls Tryd.prog 13 #[.int .i64 q, .int .i64 a] w fun e w' => e = .returned (.int .i64 (el q a)) ∧ w' = w) := by
          intro w
          have := rof_any q a w h3 h4 ha ha2
          rw [← hec] at this
          exact this
        have HSN : Hid (∀ w1 : World, w1.cell? ⟨w.heap.size, 0, none⟩ = some (.int .i64 q) → Calls Tryd.prog 32 #[.pointer (some ⟨w.heap.size, 0, none⟩), .int .i64 a] w1 fun e w' => e = .returned (.tuple #[.int .i64 0, .bool false]) ∧ w' = w1) :=
          fun w1 h1 => sqrt_no q w.heap.size a w1 HP.out h3 h4 h1 ha ha2 hz hsf
        generalize Num.pwm q (el q a) ((q - 1) / 2) = X at *
        generalize el q a = s at *
        have hsb : ((s : Int) == 0) = false := by rw [beq_eq_false_iff_ne]; omega
        have hxb : ((X : Int) == 1) = false := by rw [beq_eq_false_iff_ne]; omega
        clear hz hec hsq hsf hes hne
        go_enter Tryd.func7, Tryd.ntmps7
        go_wp2_with fail
        refine (field_yes q w h3 h4 HP.out).mono ?_
        rintro e w1 ⟨rfl, hc1, hb1, hlt1⟩
        have HB1 := hid hb1
        clear hb1
        go_wp2_with fail
        refine (HSN.out w1 hc1).mono ?_
        rintro e w2 ⟨rfl, rfl⟩
        go_wp2_with fail
        refine (HOF.out w2).mono ?_
        rintro e w3 ⟨rfl, rfl⟩
        go_wp2_with fail
        refine (HPW.out _).mono ?_
        rintro e w4 ⟨rfl, rfl⟩
        go_wp2_with fail
        go_ret
        exact ⟨rfl, HB1.out⟩
  · have HN := hid hok
    clear hok hT
    go_enter Tryd.func7, Tryd.ntmps7
    go_wp2_with fail
    refine (field_no p w hL HN.out hp1 hp2).mono ?_
    rintro e w1 ⟨rfl, hb1⟩
    have HB1 := hid hb1
    clear hb1
    go_wp2_with fail
    go_ret
    exact ⟨rfl, HB1.out⟩

end Go.Proofs.YtdcpahiljchehaaDoor
