/- lives gives a field, and the law FieldFermat answers true for every input, its calls by their contracts. -/
import Derived.Test.YtdcpahiljchehaaOrder
namespace Go.Proofs.Ytdcpahiljchehaa
open Go.RowKit

theorem prime17 : Num.Prime 17 := by
  refine ⟨by decide, fun d hd => ?_⟩
  have hle : d ≤ 17 := Nat.le_of_dvd (by decide) hd
  have key : ∀ e, e ≤ 17 → 17 % e = 0 → e = 1 ∨ e = 17 := by decide
  exact key d hle (Nat.mod_eq_zero_of_dvd hd)

theorem two_of16 (q : Nat) (hq : Num.Prime q) (hd : q ∣ 16) : q = 2 := by
  have hle : q ≤ 16 := Nat.le_of_dvd (by decide) hd
  have key : ∀ e, e ≤ 16 → 16 % e = 0 → 2 ≤ e → e = 2 ∨ (4 ∣ e) := by decide
  rcases key q hle (Nat.mod_eq_zero_of_dvd hd) hq.1 with g | g
  · exact g
  · rcases hq.2 2 (Nat.dvd_trans (by decide) g) with h | h <;> omega

theorem prime2 : Num.Prime 2 := by
  refine ⟨by decide, fun d hd => ?_⟩
  have := Nat.le_of_dvd (by decide) hd
  have h0 : d ≠ 0 := by rintro rfl; have := Nat.eq_zero_of_zero_dvd hd; omega
  omega

theorem gen17 : Num.GenIs 17 3 := by
  refine Or.inl ⟨by decide, by decide, fun q hq hd => ?_, fun x h1 h2 h => ?_⟩
  · have := two_of16 q hq hd
    subst this
    decide
  · have h8 := h 2 prime2 (by decide)
    have hx : x = 1 ∨ x = 2 := by omega
    rcases hx with rfl | rfl <;> exact h8 (by decide)

set_option maxHeartbeats 400000 in
theorem lives_any (w : World) :
    Calls Try.prog 4 #[] w fun e w' => ∃ b, e = .returned (.pointer (some ⟨b, 0, none⟩)) ∧ w'.cell? ⟨b, 0, none⟩ = some (.int .i64 17) ∧ b < w'.heap.size ∧ Below w.heap.size w w' := by
  go_enter Try.func4, Try.ntmps4
  go_wp2_with fail
  refine (new_yes 17 w (by decide) (by decide) prime17).mono ?_
  rintro e w1 ⟨rfl, hc1, hb1, hlt1⟩
  have HB := hid hb1
  clear hb1
  go_wp2_with fail
  refine (inv_any 17 w.heap.size 3 w1 (by decide) (by decide) hc1 (by decide) (by decide)).mono ?_
  rintro e w2 ⟨rfl, rfl⟩
  rw [show powz 17 3 (((17 : Nat) : Int) - 2) = 6 from by decide]
  go_wp2_with fail
  refine (gen_any 17 w.heap.size w2 (by decide) (by decide) hc1 hlt1).mono ?_
  rintro e w3 ⟨g, rfl, hg, hb3⟩
  have hg3 := Num.genIs_unique hg gen17
  subst hg3
  have hc3 := (hb3.cell (p := ⟨w.heap.size, 0, none⟩) hlt1).trans hc1
  have hs3 := hb3.size
  have HB3 := hid hb3
  clear hb3 hg
  go_wp2_with fail
  go_ret
  exact ⟨_, rfl, hc3, by omega, HB.out.trans (HB3.out.mono (by omega))⟩

/-- p factors make the element itself -/
theorem powz_p (p : Nat) (a : Int) (hp : Num.Prime p) (h3 : 3 ≤ p) : ((powz p a p : Nat) : Int) = a % (p : Int) := by
  obtain ⟨a1, a2⟩ := emod_bounds a p h3
  by_cases hz : a % (p : Int) = 0
  · unfold powz
    rw [if_pos ⟨hz, by omega⟩, hz]; rfl
  · rw [powz_nat p a p hp h3 hz]
    have hs0 : 0 < (a % (p : Int)).toNat := by omega
    have hsp : (a % (p : Int)).toNat < p := by omega
    have e : p % (p - 1) = 1 := by
      rw [show p = 1 + (p - 1) from by omega, Nat.add_sub_cancel_left, Nat.add_mod_right, Nat.mod_eq_of_lt (by omega)]
    rw [← Num.pwm_mod hp hs0 hsp p, e, Num.pwm_one p _ hsp]
    omega

set_option maxHeartbeats 400000 in
theorem fermat_walk (p a : Int) (w : World) (hp1 : -9223372036854775808 ≤ p) (hp2 : p ≤ 9223372036854775807) (ha : -9223372036854775808 ≤ a) (ha2 : a ≤ 9223372036854775807) :
    Calls Try.prog 3 #[.int .i64 p, .int .i64 a] w fun e w' => e = .returned (.bool true) ∧ Below w.heap.size w w' := by
  by_cases hok : okPrime p
  · obtain ⟨q, rfl⟩ := Int.eq_ofNat_of_zero_le (show 0 ≤ p by have := hok.1; omega)
    obtain ⟨hq3, hq4, hqp⟩ := hok
    rw [Int.toNat_natCast] at hqp
    have h3 : 3 ≤ q := by omega
    have h4 : q ≤ 2147483647 := by omega
    have HP := hid hqp
    have hpp := hid (powz_p q a hqp h3)
    clear hqp
    go_enter Try.func3, Try.ntmps3
    go_wp2_with fail
    refine (lives_any w).mono ?_
    rintro e w1 ⟨b0, rfl, -, -, hb1⟩
    have HB1 := hid hb1
    have hs1 := hb1.size
    clear hb1
    go_wp2_with fail
    refine (new_yes q w1 h3 h4 HP.out).mono ?_
    rintro e w2 ⟨rfl, hc2, hb2, hlt2⟩
    have HB2 := hid hb2
    clear hb2
    go_wp2_with fail
    refine (pow_any q w1.heap.size a q w2 h3 h4 hc2 ha ha2 (by omega) (by omega)).mono ?_
    rintro e w3 ⟨rfl, rfl⟩
    rw [hpp.out]
    go_wp2_with fail
    refine (of_any q w1.heap.size a w3 h3 h4 hc2 ha ha2).mono ?_
    rintro e w4 ⟨rfl, rfl⟩
    go_wp2_with fail
    refine (order_any q w1.heap.size a w4 HP.out h3 h4 hc2 hlt2 ha ha2).mono ?_
    rintro e w5 ⟨k, rfl, hk0, hk1, hb5⟩
    have hc5 := (hb5.cell (p := ⟨w1.heap.size, 0, none⟩) hlt2).trans hc2
    have HB5 := hid hb5
    have HALL : Hid (Below w.heap.size w w5) := HB1.out.trans ((HB2.out.mono hs1).trans (HB5.out.mono (by omega)))
    clear hb5
    by_cases hz : a % (q : Int) = 0
    · have hk := hk0 hz
      subst hk
      have hzb : (a % (q : Int) == 0) = true := by rw [beq_iff_eq]; exact hz
      clear hk0 hk1 hz
      go_wp2_with fail
      go_ret
      exact ⟨rfl, HALL.out⟩
    · have hord := hk1 hz
      have hzb : (a % (q : Int) == 0) = false := by rw [beq_eq_false_iff_ne]; exact hz
      obtain ⟨o1, o2, o3, o4⟩ := hord
      have hkle : k ≤ q - 1 := Nat.le_of_dvd (by omega) o2
      have hmod : (((q : Int) - 1) % (k : Int) != 0) = false := by
        have : ((q : Int) - 1) % (k : Int) = 0 := by
          rw [show (q : Int) - 1 = ((q - 1 : Nat) : Int) from by omega]
          exact Int.emod_eq_zero_of_dvd (Int.ofNat_dvd.2 o2)
        rw [this]; rfl
      have hpk := hid (powz_nat q a k HP.out h3 hz)
      have HO3 := hid o3
      clear hk0 hk1 hz o2 o3 o4
      go_wp2_with fail
      refine (pow_any q w1.heap.size a k w5 h3 h4 hc5 ha ha2 (by omega) (by omega)).mono ?_
      rintro e w6 ⟨rfl, rfl⟩
      rw [hpk.out, show Num.pwm q (a % (q : Int)).toNat k = 1 from HO3.out]
      go_wp2_with fail
      go_ret
      exact ⟨rfl, HALL.out⟩
  · have HN := hid hok
    clear hok
    go_enter Try.func3, Try.ntmps3
    go_wp2_with fail
    refine (lives_any w).mono ?_
    rintro e w1 ⟨b0, rfl, -, -, hb1⟩
    have HB1 := hid hb1
    clear hb1
    go_wp2_with fail
    refine (new_no p w1 HN.out hp1 hp2).mono ?_
    rintro e w2 ⟨rfl, rfl⟩
    go_wp2_with fail
    go_ret
    exact ⟨rfl, HB1.out⟩

end Go.Proofs.Ytdcpahiljchehaa
