/- What attestref1.Order, Generator and Root and the field's methods Root and P answer: the same on both sides. -/
import Derived.Test.YtidkhgplejglaacDoorOrder
import Derived.Test.YtidkhgplejglaacDoorRef
namespace Go.Proofs.YtidkhgplejglaacDoor
open Go.RowKit

theorem el_nat (p s : Nat) (h : s < p) : el p (s : Int) = s := by
  unfold el; rw [Int.emod_eq_of_lt (by omega) (by omega)]; simp

set_option maxRecDepth 100000 in
set_option maxHeartbeats 1000000 in
theorem rorder_any (p : Nat) (a : Int) (w : World) (hpr : Num.Prime p) (h3 : 3 ≤ p) (hm : p ≤ 2147483647) (ha : -9223372036854775808 ≤ a) (ha2 : a ≤ 9223372036854775807) :
    Calls Tryd.prog 66 #[.int .i64 p, .int .i64 a] w fun e w' => ∃ k : Nat, e = .returned (.int .i64 k) ∧ (a % (p : Int) = 0 → k = 0) ∧ (a % (p : Int) ≠ 0 → Num.LeastDiv p (el p a) k) ∧ w' = w := by
  have hof := hid (rof_any p a w h3 hm ha ha2)
  by_cases hz : a % (p : Int) = 0
  · have HZ := hid hz
    rw [hz] at hof
    clear hz hpr
    go_enter Tryd.func66, Tryd.ntmps66
    go_wp2_with fail
    refine hof.out.mono ?_
    rintro e w' ⟨rfl, rfl⟩
    go_wp2_with fail
    go_ret
    exact ⟨0, rfl, fun _ => rfl, fun h => absurd HZ.out h, rfl⟩
  · have hsp := el_lt p a h3
    have hs0 : 0 < el p a := by
      have := el_cast p a h3
      rcases Nat.eq_zero_or_pos (el p a) with g | g
      · rw [g] at this; exact absurd this.symm hz
      · exact g
    have HZ := hid hz
    have HS := hid (Num.DI.start hpr hs0 hsp)
    have HPW : Hid (∀ (N : Nat) (w : World), N ≤ 9223372036854775807 → Calls Tryd.prog 55 #[.int .i64 p, .int .i64 ((el p a : Nat) : Int), .int .i64 N] w fun e w' => e = .returned (.int .i64 (Num.pwm p (el p a) N)) ∧ w' = w) := by
      intro N w hN
      have := rpow_nat p N ((el p a : Nat) : Int) w h3 hm (by omega) (by omega) hN
      rw [el_nat p _ hsp] at this
      exact this
    rw [← el_cast p a h3] at hof
    generalize el p a = s at *
    have hsb : ((s : Int) == 0) = false := by rw [beq_eq_false_iff_ne]; omega
    clear hz hpr
    go_enter Tryd.func66, Tryd.ntmps66
    go_wp2_with fail
    refine hof.out.mono ?_
    rintro e w' ⟨rfl, rfl⟩
    clear hof
    go_wp2_with fail
    go_loop [5, 6] (fun bv iv => ∃ i best : Nat, 1 ≤ i ∧ i ≤ 46341 ∧ best ≤ 2147483647 ∧ iv = .int .i64 i ∧ bv = .int .i64 best ∧ Hid (Num.DI p s i best)) (fun _ iv => 46341 - (intOf iv).toNat)
    case atStart => exact ⟨1, p - 1, by omega, by omega, by omega, rfl, by go_num, HS⟩
    case round =>
      obtain ⟨i, best, hi1, hi2, hbest, rfl, rfl, hdi⟩ := hrel
      have hsq : ((i : Int) * i) = ((i * i : Nat) : Int) := by simp
      have hkk : i * i ≤ 46341 * 46341 := Nat.mul_le_mul hi2 hi2
      have hq1 : 0 ≤ (i : Int) * i := by omega
      have hq2 : (i : Int) * i ≤ 2147488281 := by omega
      by_cases hle : i * i ≤ p - 1
      · have hi3 := sq_le i (p - 1) hle (by omega)
        have hle2 : (i : Int) * i ≤ (p : Int) - 1 := by omega
        clear hsq hle hkk
        by_cases hd : i ∣ p - 1
        · have hmod : (((p : Int) - 1) % (i : Int) != 0) = false := by
            rw [bne_eq_false_iff_eq, show (p : Int) - 1 = ((p - 1 : Nat) : Int) from by omega]
            exact Int.emod_eq_zero_of_dvd (Int.ofNat_dvd.2 hd)
          have q1 : 0 ≤ ((p : Int) - 1) / (i : Int) := Int.ediv_nonneg (by omega) (by omega)
          have q2 : ((p : Int) - 1) / (i : Int) ≤ 2147483647 := by
            have := Int.ediv_le_self (a := (p : Int) - 1) (i : Int) (by omega); omega
          have hkc := div_cast p i h3
          have hKle : (p - 1) / i ≤ p - 1 := Nat.div_le_self _ _
          have hp1 := hid (HPW.out i w' (by omega))
          have hp2 := hid (HPW.out ((p - 1) / i) w' (by omega))
          rw [← hkc] at hp2
          have HST := hid (fun b1 b2 => Num.DI.step (b1 := b1) (b2 := b2) hi1 (by omega) hdi.out hd)
          generalize (p - 1) / i = K at *
          generalize Num.pwm p s i = X1 at *
          generalize Num.pwm p s K = X2 at *
          have HKC := hid hkc
          clear hd hkc
          have c1 : (X1 = 1 ∧ i < best) ∨ X1 ≠ 1 ∨ (X1 = 1 ∧ best ≤ i) := by omega
          rcases c1 with ⟨e1, e2⟩ | e1 | ⟨e1, e2⟩
          · have f1 : ((X1 : Int) == 1) = true := by rw [beq_iff_eq]; omega
            have f2 : (i : Int) < (best : Int) := by omega
            have c2 : (X2 = 1 ∧ K < i) ∨ X2 ≠ 1 ∨ (X2 = 1 ∧ i ≤ K) := by omega
            have HE1 : Hid (i = if X1 = 1 ∧ i < best then i else best) := by unfold Hid; first | rw [if_pos (by omega)] | rw [if_neg (by omega)]
            rcases c2 with ⟨g1, g2⟩ | g1 | ⟨g1, g2⟩
            · have f3 : ((X2 : Int) == 1) = true := by rw [beq_iff_eq]; omega
              have f4 : ((p : Int) - 1) / (i : Int) < (i : Int) := by rw [HKC.out]; omega
              have HE2 : Hid (K = if X2 = 1 ∧ K < i then K else i) := by unfold Hid; first | rw [if_pos (by omega)] | rw [if_neg (by omega)]
              clear e1 g1 e2 g2
              go_wp2_with fail
              refine hp1.out.mono ?_
              rintro e w2 ⟨rfl, rfl⟩
              go_wp2_with fail
              refine hp2.out.mono ?_
              rintro e w2 ⟨rfl, rfl⟩
              go_wp2_with fail
              go_round
              case rel => exact ⟨i + 1, K, by omega, by omega, by omega, by go_num, by first | rfl | rw [HKC.out], hid (HST.out _ _ HE1.out HE2.out)⟩
              case measure => simp [intOf]; omega
            · have f3 : ((X2 : Int) == 1) = false := by rw [beq_eq_false_iff_ne]; omega
              have HE2 : Hid (i = if X2 = 1 ∧ K < i then K else i) := by unfold Hid; first | rw [if_pos (by omega)] | rw [if_neg (by omega)]
              clear e1 g1 e2
              go_wp2_with fail
              refine hp1.out.mono ?_
              rintro e w2 ⟨rfl, rfl⟩
              go_wp2_with fail
              refine hp2.out.mono ?_
              rintro e w2 ⟨rfl, rfl⟩
              go_wp2_with fail
              go_round
              case rel => exact ⟨i + 1, i, by omega, by omega, by omega, by go_num, by first | rfl | rw [HKC.out], hid (HST.out _ _ HE1.out HE2.out)⟩
              case measure => simp [intOf]; omega
            · have f3 : ((X2 : Int) == 1) = true := by rw [beq_iff_eq]; omega
              have f4 : ¬ ((p : Int) - 1) / (i : Int) < (i : Int) := by rw [HKC.out]; omega
              have HE2 : Hid (i = if X2 = 1 ∧ K < i then K else i) := by unfold Hid; first | rw [if_pos (by omega)] | rw [if_neg (by omega)]
              clear e1 g1 e2 g2
              go_wp2_with fail
              refine hp1.out.mono ?_
              rintro e w2 ⟨rfl, rfl⟩
              go_wp2_with fail
              refine hp2.out.mono ?_
              rintro e w2 ⟨rfl, rfl⟩
              go_wp2_with fail
              go_round
              case rel => exact ⟨i + 1, i, by omega, by omega, by omega, by go_num, by first | rfl | rw [HKC.out], hid (HST.out _ _ HE1.out HE2.out)⟩
              case measure => simp [intOf]; omega
          · have f1 : ((X1 : Int) == 1) = false := by rw [beq_eq_false_iff_ne]; omega
            have c2 : (X2 = 1 ∧ K < best) ∨ X2 ≠ 1 ∨ (X2 = 1 ∧ best ≤ K) := by omega
            have HE1 : Hid (best = if X1 = 1 ∧ i < best then i else best) := by unfold Hid; first | rw [if_pos (by omega)] | rw [if_neg (by omega)]
            rcases c2 with ⟨g1, g2⟩ | g1 | ⟨g1, g2⟩
            · have f3 : ((X2 : Int) == 1) = true := by rw [beq_iff_eq]; omega
              have f4 : ((p : Int) - 1) / (i : Int) < (best : Int) := by rw [HKC.out]; omega
              have HE2 : Hid (K = if X2 = 1 ∧ K < best then K else best) := by unfold Hid; first | rw [if_pos (by omega)] | rw [if_neg (by omega)]
              clear e1 g1 g2
              go_wp2_with fail
              refine hp1.out.mono ?_
              rintro e w2 ⟨rfl, rfl⟩
              go_wp2_with fail
              refine hp2.out.mono ?_
              rintro e w2 ⟨rfl, rfl⟩
              go_wp2_with fail
              go_round
              case rel => exact ⟨i + 1, K, by omega, by omega, by omega, by go_num, by first | rfl | rw [HKC.out], hid (HST.out _ _ HE1.out HE2.out)⟩
              case measure => simp [intOf]; omega
            · have f3 : ((X2 : Int) == 1) = false := by rw [beq_eq_false_iff_ne]; omega
              have HE2 : Hid (best = if X2 = 1 ∧ K < best then K else best) := by unfold Hid; first | rw [if_pos (by omega)] | rw [if_neg (by omega)]
              clear e1 g1
              go_wp2_with fail
              refine hp1.out.mono ?_
              rintro e w2 ⟨rfl, rfl⟩
              go_wp2_with fail
              refine hp2.out.mono ?_
              rintro e w2 ⟨rfl, rfl⟩
              go_wp2_with fail
              go_round
              case rel => exact ⟨i + 1, best, by omega, by omega, by omega, by go_num, by first | rfl | rw [HKC.out], hid (HST.out _ _ HE1.out HE2.out)⟩
              case measure => simp [intOf]; omega
            · have f3 : ((X2 : Int) == 1) = true := by rw [beq_iff_eq]; omega
              have f4 : ¬ ((p : Int) - 1) / (i : Int) < (best : Int) := by rw [HKC.out]; omega
              have HE2 : Hid (best = if X2 = 1 ∧ K < best then K else best) := by unfold Hid; first | rw [if_pos (by omega)] | rw [if_neg (by omega)]
              clear e1 g1 g2
              go_wp2_with fail
              refine hp1.out.mono ?_
              rintro e w2 ⟨rfl, rfl⟩
              go_wp2_with fail
              refine hp2.out.mono ?_
              rintro e w2 ⟨rfl, rfl⟩
              go_wp2_with fail
              go_round
              case rel => exact ⟨i + 1, best, by omega, by omega, by omega, by go_num, by first | rfl | rw [HKC.out], hid (HST.out _ _ HE1.out HE2.out)⟩
              case measure => simp [intOf]; omega
          · have f1 : ((X1 : Int) == 1) = true := by rw [beq_iff_eq]; omega
            have f2 : ¬ (i : Int) < (best : Int) := by omega
            have c2 : (X2 = 1 ∧ K < best) ∨ X2 ≠ 1 ∨ (X2 = 1 ∧ best ≤ K) := by omega
            have HE1 : Hid (best = if X1 = 1 ∧ i < best then i else best) := by unfold Hid; first | rw [if_pos (by omega)] | rw [if_neg (by omega)]
            rcases c2 with ⟨g1, g2⟩ | g1 | ⟨g1, g2⟩
            · have f3 : ((X2 : Int) == 1) = true := by rw [beq_iff_eq]; omega
              have f4 : ((p : Int) - 1) / (i : Int) < (best : Int) := by rw [HKC.out]; omega
              have HE2 : Hid (K = if X2 = 1 ∧ K < best then K else best) := by unfold Hid; first | rw [if_pos (by omega)] | rw [if_neg (by omega)]
              clear e1 g1 e2 g2
              go_wp2_with fail
              refine hp1.out.mono ?_
              rintro e w2 ⟨rfl, rfl⟩
              go_wp2_with fail
              refine hp2.out.mono ?_
              rintro e w2 ⟨rfl, rfl⟩
              go_wp2_with fail
              go_round
              case rel => exact ⟨i + 1, K, by omega, by omega, by omega, by go_num, by first | rfl | rw [HKC.out], hid (HST.out _ _ HE1.out HE2.out)⟩
              case measure => simp [intOf]; omega
            · have f3 : ((X2 : Int) == 1) = false := by rw [beq_eq_false_iff_ne]; omega
              have HE2 : Hid (best = if X2 = 1 ∧ K < best then K else best) := by unfold Hid; first | rw [if_pos (by omega)] | rw [if_neg (by omega)]
              clear e1 g1 e2
              go_wp2_with fail
              refine hp1.out.mono ?_
              rintro e w2 ⟨rfl, rfl⟩
              go_wp2_with fail
              refine hp2.out.mono ?_
              rintro e w2 ⟨rfl, rfl⟩
              go_wp2_with fail
              go_round
              case rel => exact ⟨i + 1, best, by omega, by omega, by omega, by go_num, by first | rfl | rw [HKC.out], hid (HST.out _ _ HE1.out HE2.out)⟩
              case measure => simp [intOf]; omega
            · have f3 : ((X2 : Int) == 1) = true := by rw [beq_iff_eq]; omega
              have f4 : ¬ ((p : Int) - 1) / (i : Int) < (best : Int) := by rw [HKC.out]; omega
              have HE2 : Hid (best = if X2 = 1 ∧ K < best then K else best) := by unfold Hid; first | rw [if_pos (by omega)] | rw [if_neg (by omega)]
              clear e1 g1 e2 g2
              go_wp2_with fail
              refine hp1.out.mono ?_
              rintro e w2 ⟨rfl, rfl⟩
              go_wp2_with fail
              refine hp2.out.mono ?_
              rintro e w2 ⟨rfl, rfl⟩
              go_wp2_with fail
              go_round
              case rel => exact ⟨i + 1, best, by omega, by omega, by omega, by go_num, by first | rfl | rw [HKC.out], hid (HST.out _ _ HE1.out HE2.out)⟩
              case measure => simp [intOf]; omega
        · have hmod : (((p : Int) - 1) % (i : Int) != 0) = true := by
            rw [bne_iff_ne, show (p : Int) - 1 = ((p - 1 : Nat) : Int) from by omega]
            intro g; exact hd (Int.ofNat_dvd.1 (Int.dvd_of_emod_eq_zero g))
          have HST := hid (hdi.out.skip hi1 (by omega) hd)
          clear hd
          go_wp2_with fail
          go_round
          case rel => exact ⟨i + 1, best, by omega, by omega, hbest, by go_num, rfl, HST⟩
          case measure => simp [intOf]; omega
      · have hle2 : ¬ (i : Int) * i ≤ (p : Int) - 1 := by omega
        have HL := hid hle
        clear hsq hle hkk
        go_wp2_with fail
        go_ret
        exact ⟨best, rfl, fun h => absurd h HZ.out, fun _ => hdi.out.done (by omega) hi1 (Nat.lt_of_not_le HL.out), rfl⟩

end Go.Proofs.YtidkhgplejglaacDoor
